/-
  slices.Reverse of rows that a call has made.
-/
import Derived.Test.YtammnnhdhdeogaaCReverseR
import Derived.Test.YtammnnhdhdeogaaCTurned
namespace Go.Proofs.Ytammnnhdhdeogaa
open Go.RowKit Fm
set_option linter.unusedVariables false

theorem elems_reverse {w : World} {base : Nat} {e : TypeId} {vs : List Value} {L : List (List Int)} (h : Elems w base e vs L) : Elems w base e vs.reverse L.reverse := by
  refine ⟨by rw [List.length_reverse, List.length_reverse]; exact h.1, fun j v hv => ?_⟩
  have hj : j < vs.length := by
    rcases Nat.lt_or_ge j vs.length with h1 | h1
    · exact h1
    · rw [List.getElem?_eq_none (by rw [List.length_reverse]; omega)] at hv; cases hv
  have hj2 : j < L.length := by rw [← h.1]; exact hj
  rw [List.getElem?_reverse hj] at hv
  have e1 : L.reverse.getD j [] = L.getD (vs.length - 1 - j) [] := by
    rw [List.getD_eq_getElem?_getD, List.getD_eq_getElem?_getD, List.getElem?_reverse hj2, h.1]
  rw [e1]
  exact h.2 _ v hv

set_option maxHeartbeats 400000 in
theorem reverseR_nil (w : World) : Calls Try.prog 26 #[.slice none 0 0] w fun e w' => e = .returned (.tuple #[]) ∧ w = w' := by
  go_enter Try.func26, Try.ntmps26
  go_wp2_with fail
  go_loopw [2, 3] (fun s2 s3 wr => s2 = .int .i64 0 ∧ s3 = .int .i64 (-1) ∧ wr = w) (fun _ _ _ => 0)
  case atStart => exact ⟨rfl, rfl, rfl⟩
  case round =>
    obtain ⟨rfl, rfl, rfl⟩ := hrel
    go_wp2
    go_end0
    exact ⟨rfl, rfl⟩

theorem reverseR_rows {L : List (List Int)} {w w1 : World} {v : Value} {vs : List Value} (ho : w1.ownsRow w.heap.size 26 1 v L.length vs) (he : Elems w1 w.heap.size 3 vs L) (hb : Below w.heap.size w w1) (hl : L.length ≤ 1000) :
    ∃ a c, v = .slice a L.length c ∧ L.length ≤ c ∧ c ≤ maxLen ∧ Calls Try.prog 26 #[.slice a L.length c] w1 fun e w' =>
      e = .returned (.tuple #[]) ∧ RdR w' w'.heap.size a L.length L.reverse ∧ Below w.heap.size w w' := by
  rcases ho.2 with ⟨hv, hn⟩ | ⟨g, cap, cur, hv, _, _, h1, h2, _⟩
  · have hl0 : L.length = 0 := by omega
    refine ⟨none, 0, by rw [hv, hl0], by omega, by unfold maxLen; omega, ?_⟩
    have hL : L = [] := List.length_eq_zero_iff.1 hl0
    subst hL
    refine (reverseR_nil w1).mono ?_
    rintro e w' ⟨rfl, rfl⟩
    exact ⟨rfl, RdR.nil_, hb⟩
  · subst hv
    refine ⟨_, cap, rfl, h1, h2, ?_⟩
    have hxs : ∀ j, j < L.length → ∃ a l c, vs.getD j (.slice none 0 0) = .slice a l c := fun j hj => by
      obtain ⟨u, hu, hou⟩ := he.at_ (j := j) hj
      obtain ⟨a', c', rfl, _⟩ := own_slice hou
      exact ⟨a', _, c', by rw [List.getD_eq_getElem?_getD, hu]; rfl⟩
    refine (reverseR_own w.heap.size g L.length cap vs w1 ho (by omega) hxs).mono ?_
    rintro e w' ⟨rfl, ho', hg⟩
    obtain ⟨cc, hk⟩ := own_kind ho (g := g) rfl
    have he' := elems_reverse (he.kept hg (fun g' h => by injection h with h; subst h; exact .inr ⟨cc, _, hk, by decide⟩))
    have hbb : Below w.heap.size w w' := hb.grown hg hb.size (fun y hy => by injection hy with hy; have := (ho.lt g rfl).1; omega)
    refine ⟨rfl, ?_, hbb⟩
    exact RdR.of_own (L := L.reverse) ho' (List.length_reverse ..) he'
end Go.Proofs.Ytammnnhdhdeogaa

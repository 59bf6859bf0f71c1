/-
  equil.upTo: the numbers below n, in a row of the call's own; nothing that was there is written.
-/
import Derived.Test.YtimjepakdldacaaEquilP
import Derived.Test.YtimjepakdldacaaCMinMax
import Derived.Test.YtimjepakdldacaaCSaLow
namespace Go.Proofs.Ytimjepakdldacaa
open Go.RowKit Fm
set_option linter.unusedVariables false

/-- The first j numbers, then zeros. -/
def upL (n j : Nat) : List Int := fnL n (fun x => if x.toNat < j then x else 0)
theorem upL_len (n j : Nat) : (upL n j).length = n := fnL_len n _
theorem upL_zero (n : Nat) : List.replicate n 0 = upL n 0 := by
  rw [zeroL]
  exact fnL_congr n (fun j hj => by rw [if_neg (by omega)])
theorem upL_set {n j : Nat} (h : j < n) : (upL n j).set j (j : Int) = upL n (j + 1) := by
  unfold upL
  rw [fnL_set n _ h]
  refine fnL_congr n (fun i hi => ?_)
  rw [Int.toNat_natCast]
  by_cases e : i = j
  · subst e; rw [if_pos rfl, if_pos (by omega)]
  · rw [if_neg (by omega)]
    by_cases q : i < j
    · rw [if_pos q, if_pos (by omega)]
    · rw [if_neg q, if_neg (by omega)]
theorem upL_end (n : Nat) : upL n n = sides n := by
  unfold upL fnL
  rw [List.map_congr_left (g := id) (fun x hx => by have := mem_sides.1 hx; rw [if_pos (by omega)]; rfl), List.map_id]

set_option maxHeartbeats 1000000 in
set_option maxRecDepth 100000 in
theorem upTo_own (n : Nat) (h6 : n ≤ 6) (w : World) :
    Calls Try.prog 28 #[.int .i64 n] w fun e w' => ∃ v, e = .returned v ∧ w'.ownsRow w.heap.size 3 1 v n (I (sides n)) ∧ Below w.heap.size w w' := by
  have hmk : ∀ W : World, (Instr.makeSlice 27 (.int .i64 n) (.int .i64 n)).run Try.prog W = .ok (.slice (some ⟨W.heap.size, 0, none⟩) n n) (W.alloc (.cells (zeros n) 3)) := make_ints n (by omega)
  have own0 := own_lit w 3 (List.replicate n 0) (zeros n) rfl (by unfold maxLen; simp; omega)
  rw [List.length_replicate, upL_zero n] at own0
  have hb0 : Below w.heap.size w (w.alloc (.cells (zeros n) 3)) := (Below.refl _ w).alloc (Nat.le_refl _) _
  go_enter Try.func28, Try.ntmps28
  go_wp2_with fail
  clear hmk
  generalize w.alloc (.cells (zeros n) 3) = w2 at *
  obtain ⟨g, hg⟩ : ∃ g, w.heap.size = g := ⟨_, rfl⟩
  have hgl : w.heap.size ≤ g := by omega
  have own1 : w2.ownsRow w.heap.size 3 1 (.slice (some ⟨g, 0, none⟩) n n) n (I (upL n 0)) := by rw [hg] at own0 ⊢; exact own0
  rw [show Value.slice (some ⟨w.heap.size, 0, none⟩) n n = Value.slice (some ⟨g, 0, none⟩) n n by rw [hg]]
  clear own0 hg
  go_loopw [9] (fun xv wr => ∃ x : Nat, x ≤ n ∧ xv = .int .i64 x ∧ wr.ownsRow w.heap.size 3 1 (.slice (some ⟨g, 0, none⟩) n n) n (I (upL n x)) ∧ Below w.heap.size w wr) (fun xv _ => n - (intOf xv).toNat)
  case atStart => exact ⟨0, Nat.zero_le _, rfl, own1, hb0⟩
  case round =>
    obtain ⟨x, hx, rfl, hown, hbel⟩ := hrel
    clear own1 hb0
    have hz := hbel.size
    by_cases hxn : x < n
    · have ck := own_cell hown x hxn
      have fk := hown.frozenAt x
      obtain ⟨s1, g1⟩ := hown.stored x (.int .i64 (x : Int))
      have es : (I (upL n x)).set x (.int .i64 (x : Int)) = I (upL n (x + 1)) := by
        rw [← upL_set hxn]; unfold I; rw [List.map_set]
      rw [es] at s1
      have hb5 := hbel.grown g1 hz (fun y hy => by injection hy with hy; have := (hown.lt g rfl).1; omega)
      clear es g1 hown hbel
      generalize (upL n x).getD x 0 = z at *
      go_wp2
      go_roundw
      case rel => exact ⟨x + 1, by omega, by go_num, s1, hb5⟩
      case measure => simp [intOf]; omega
    · obtain rfl : x = n := by omega
      rw [upL_end] at hown
      go_wp2
      go_ret
      exact ⟨_, rfl, hown, hbel⟩
end Go.Proofs.Ytimjepakdldacaa

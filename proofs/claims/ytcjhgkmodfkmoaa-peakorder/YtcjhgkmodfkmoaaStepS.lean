/-
  append of one slice to a row of slices of the call's own, as a step of a region that draws its order; a row of slices cut at its front.
-/
import Derived.Test.YtcjhgkmodfkmoaaPushS
import Derived.Test.YtcjhgkmodfkmoaaOuts
import Derived.Deep.AppendLies
import Derived.Deep.RegionLaw
namespace Go.Proofs.Ytcjhgkmodfkmoaa
open Go.RowKit Fm
set_option linter.unusedVariables false

theorem stepPushS {ops : Array Oper} {o : Oper} {a : Act} {K : Act → World → Prop} {Q : Exit → Act → World → Prop} {E : Prop} (hgd : o.guard = none) (s x : Operand)
    (ho : o.op = .call { callee := .builtin .append, args := #[s, x], argTypes := #[23, 23] })
    (w : World) (base : Nat) (v : Value) (n : Nat) (vs : List Value) (ya : Option Addr) (yn yc : Nat) (hs : a.eval s = v) (hx : a.eval x = .slice (some ⟨w.heap.size, 0, none⟩) 1 1)
    (hown : w.ownsRow base 22 1 v n vs) (hbase : base ≤ w.heap.size) (hn : n ≤ 1000000)
    (h : ∀ g cap w', w'.ownsRow base 22 1 (.slice (some ⟨g, 0, none⟩) (n + 1) cap) (n + 1) (vs ++ [.slice ya yn yc]) → w.grownBy w' v.ownBlock → (v.ownBlock = some g ∨ w.heap.size < g) → g < w'.heap.size →
      K (a.put o.dst (.slice (some ⟨g, 0, none⟩) (n + 1) cap)) w') : if Region.wanted o (yielded ops a.tmps) = true then Oper.wp Try.prog o a (w.alloc (.cells #[.slice ya yn yc] 22)) K Q else E := by
  obtain ⟨i0, hi, hz0, hz1, hz2⟩ := info_parts info_ints
  refine step_append_lies _ hgd s x 23 ho base 22 i0 (.slice none 0 0) 1 24 Try.underlying23 hi hz0 hz1 hz2 rfl (by decide) v n vs hs (hown.alloc _) ⟨w.heap.size, 0, none⟩ 1 1 [.slice ya yn yc] hx rfl ?_ ?_ (by decide) ?_ ?_ ?_ (w.heap.size + 1) (by simp) ?_
  · intro j u hj
    match j, hj with
    | 0, hj => simp at hj; subst hj; simp [Addr.add, World.cell?_alloc_new]
  · intro u hu; simp at hu; subst hu; rfl
  · unfold maxLen; omega
  · omega
  · simp; omega
  · intro g cap w' h1 h2 h3 h4
    refine h g cap w' h1 ?_ ?_ h4
    · refine ⟨h2.os, h2.tape, h2.output, Nat.le_trans (by simp) h2.size, fun k hk hne => ?_⟩
      rw [h2.block k (by simp; omega) hne]
      exact Below.heap_alloc w _ k hk
    · rcases h3 with h3 | h3
      · exact .inl h3
      · right; omega
theorem rdr_drop {w : World} {B b o n : Nat} {L : List (List Int)} (h : RdR w B (some ⟨b, o, none⟩) n L) {k : Nat} (hk : k < n) : RdR w B (some ⟨b, o + k, none⟩) (n - k) (L.drop k) := by
  refine ⟨by rw [List.length_drop, h.1], fun _ => ?_⟩
  obtain ⟨b', o', e, hb, hc⟩ := h.2 (by omega)
  injection e with e; injection e with e1 e2; subst e1; subst e2
  refine ⟨b, o + k, rfl, hb, fun j hj => ?_⟩
  have e1 : (L.drop k).getD j [] = L.getD (k + j) [] := by simp [List.getD_eq_getElem?_getD]
  rw [e1, Nat.add_assoc]
  exact hc (k + j) (by omega)
theorem own_cutS {w : World} {base n cap i : Nat} {a : Option Addr} {e : TypeId} {vs : List Value} (h : w.ownsRow base e 1 (.slice a n cap) n vs) (hi : i ≤ n) : w.ownsRow base e 1 (.slice a i cap) i (vs.take i) := by
  refine ⟨by rw [List.length_take, h.1]; omega, ?_⟩
  rcases h.2 with ⟨hv, hn⟩ | ⟨g, cap', cur, hv, h1, h2, h3, h4, h5, h6⟩
  · injection hv with q1 q2 q3
    subst q1; subst q3
    exact .inl ⟨by rw [show i = 0 by omega], by omega⟩
  · injection hv with q1 q2 q3
    subst q1; subst q3
    refine .inr ⟨g, cap, cur, rfl, h1, h2, by omega, h4, h5, ?_⟩
    have : cur.toList.take (i * 1) = (cur.toList.take (n * 1)).take i := by rw [List.take_take]; congr 1; omega
    rw [this, h6]
theorem own_room {w : World} {B g n cap : Nat} {e : TypeId} {xs : List Value} (h : w.ownsRow B e 1 (.slice (some ⟨g, 0, none⟩) n cap) n xs) : n ≤ cap ∧ cap ≤ maxLen := by
  rcases h.2 with ⟨q1, _⟩ | ⟨g', cap', cur, q1, _, _, q2, q3, _⟩
  · cases q1
  · injection q1 with _ _ q1; subst q1; exact ⟨q2, q3⟩
theorem elems_cut {w : World} {base i : Nat} {e : TypeId} {vs : List Value} {L : List (List Int)} (h : Elems w base e vs L) (hi : i ≤ L.length) : Elems w base e (vs.take i) (L.take i) := by
  refine ⟨by rw [List.length_take, List.length_take, h.1], fun j v hv => ?_⟩
  rw [List.getElem?_take] at hv
  split at hv
  · rename_i hj
    have e1 : (L.take i).getD j [] = L.getD j [] := by simp [List.getD_eq_getElem?_getD, hj]
    rw [e1]
    exact h.2 j v hv
  · cases hv
end Go.Proofs.Ytcjhgkmodfkmoaa

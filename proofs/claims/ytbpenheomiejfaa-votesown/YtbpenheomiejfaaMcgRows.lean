/-
  McGarvey's ballots, one pair after another: lists of ints alone.
-/
import Derived.Test.YtbpenheomiejfaaDuelP
import Derived.Test.YtbpenheomiejfaaPureA
namespace Go.Proofs.Ytbpenheomiejfaa
open Go.RowKit Fm
set_option linter.unusedVariables false

theorem mcg_succ (n : Nat) (L : List (List Int)) {k : Nat} (h : k < L.length) : mcg n (L.take (k + 1)) = (mcg n (L.take k) ++ [L.getD k [] ++ others n (L.getD k [])]) ++ [(others n (L.getD k [])).reverse ++ L.getD k []] := by
  unfold mcg
  rw [List.take_succ_eq_append_getElem h, List.flatMap_append, List.getD_eq_getElem?_getD, List.getElem?_eq_getElem h]
  simp
theorem mcg_len (n : Nat) (L : List (List Int)) : (mcg n L).length = 2 * L.length := by
  unfold mcg
  induction L with
  | nil => rfl
  | cons b L ih => simp [List.flatMap_cons] at ih ⊢; omega
theorem others_len (n : Nat) (b : List Int) : (others n b).length ≤ n := by
  unfold others; exact Nat.le_trans (List.length_filter_le _ _) (by rw [sides_len]; exact Nat.le_refl _)
theorem mcg_rows {n : Nat} {L : List (List Int)} (hL : ∀ b ∈ L, b.length = 2) {l : List Int} (h : l ∈ mcg n L) : l.length ≤ n + 2 := by
  unfold mcg at h
  rw [List.mem_flatMap] at h
  obtain ⟨b, hb, hl⟩ := h
  have h1 := hL b hb
  have h2 := others_len n b
  simp at hl
  rcases hl with rfl | rfl <;> simp <;> omega

/-- One of the pair. -/
def ofPair (b : List Int) (x : Int) : Bool := x == b.getD 0 0 || x == b.getD 1 0
theorem lit_two (w : World) (t : TypeId) (p q : List Int) (a1 a2 : Option Addr) (n1 c1 n2 c2 : Nat) (h1 : Rd w w.heap.size a1 n1 p) (h1c : n1 ≤ c1) (h1n : a1 = none → c1 = 0) (h1m : c1 ≤ maxLen) (h2 : Rd w w.heap.size a2 n2 q) (h2c : n2 ≤ c2) (h2n : a2 = none → c2 = 0) (h2m : c2 ≤ maxLen) :
    RdR (w.alloc (.cells #[.slice a1 n1 c1, .slice a2 n2 c2] t)) (w.alloc (.cells #[.slice a1 n1 c1, .slice a2 n2 c2] t)).heap.size (some ⟨w.heap.size, 0, none⟩) 2 [p, q] := by
  obtain rfl := h1.1
  obtain rfl := h2.1
  have h := rdr_lit w t [p, q] #[.slice a1 p.length c1, .slice a2 q.length c2] rfl (fun j hj => by
    match j, hj with
    | 0, _ => exact ⟨a1, c1, rfl, h1c, h1n, h1m, h1⟩
    | 1, _ => exact ⟨a2, c2, rfl, h2c, h2n, h2m, h2⟩)
  exact h.more (by simp)
end Go.Proofs.Ytbpenheomiejfaa

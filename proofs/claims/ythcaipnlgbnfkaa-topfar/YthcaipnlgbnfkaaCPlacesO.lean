/-
  order.places: for alternatives from 0 to 5 it returns the array of their indices; nothing that was there is written.
-/
import Derived.Test.YthcaipnlgbnfkaaProg
import Derived.Test.YthcaipnlgbnfkaaPureA
import Derived.Laws.ResultCell
import Derived.WalkKit
import Derived.KernelRfl
import Derived.Laws.NewBlocks
namespace Go.Proofs.Ythcaipnlgbnfkaa
open Go.RowKit Fm
set_option linter.unusedVariables false

/-- Six ints as cells. -/
def six (f : Int → Int) : Array Value := #[.int .i64 (f 0), .int .i64 (f 1), .int .i64 (f 2), .int .i64 (f 3), .int .i64 (f 4), .int .i64 (f 5)]
theorem six_at (f : Int → Int) {i : Nat} (h : i < 6) : (six f)[i]? = some (.int .i64 (f i)) := by
  match i, h with
  | 0, _ => rfl
  | 1, _ => rfl
  | 2, _ => rfl
  | 3, _ => rfl
  | 4, _ => rfl
  | 5, _ => rfl
theorem six_size (f : Int → Int) : (six f).size = 6 := rfl
theorem six_set (f : Int → Int) (i : Nat) (v : Int) : (six f).setIfInBounds i (.int .i64 v) = six (fun y => if (i : Int) = y then v else f y) := by
  apply Array.ext
  · simp [six_size]
  · intro j h1 h2
    have hj : j < 6 := by simpa [six_size] using h1
    have e := six_at (fun y => if (i : Int) = y then v else f y) hj
    have g := six_at f hj
    rw [Array.getElem?_eq_getElem h2] at e
    injection e with e
    rw [e, Array.getElem_setIfInBounds (by rw [six_size]; exact hj)]
    split
    · rename_i he; subst he; simp
    · rename_i hne
      have hne' : ¬ (i : Int) = (j : Int) := by omega
      rw [Array.getElem?_eq_getElem (by rw [six_size]; exact hj)] at g
      injection g with g
      rw [g]
      simp [hne']

set_option maxHeartbeats 400000 in
set_option maxRecDepth 100000 in
theorem places_any (a : Option Addr) (n c : Nat) (q : List Int) (w : World) (B : Nat) (hB : B ≤ w.heap.size) (hr : Rd w B a n q) (hn : n ≤ 6) (hq : ∀ x ∈ q, 0 ≤ x ∧ x < 6) :
    Calls Try.prog 104 #[.slice a n c] w fun e w' => e = .returned (.agg (six (atTo q n))) ∧ Below w.heap.size w w' := by
  obtain ⟨hl, hr⟩ := hr
  have HL := Lib.hid hl
  have HR := Lib.hid hr
  have HQ := Lib.hid hq
  clear hl hr hq
  go_enter Try.func104, Try.ntmps104
  go_wp2
  go_loopw [8] (fun i wr => ∃ j : Nat, j ≤ n ∧ i = .int .i64 j ∧ wr = (w.alloc (.cells (six fun _ => 0) 101)).alloc (.cells (six (atTo q j)) 101)) (fun i _ => n - (intOf i).toNat)
  case atStart => exact ⟨0, Nat.zero_le _, rfl, rfl⟩
  case round =>
    obtain ⟨j, hj, rfl, rfl⟩ := hrel
    by_cases hlt : j < n
    · obtain ⟨b, o, rfl, hb, hc⟩ := HR.out (by omega)
      have hcj : ∀ o1 o2, ((w.alloc o1).alloc o2).cell? ⟨b, o + j, none⟩ = some (.int .i64 (q.getD j 0)) := fun o1 o2 => by
        rw [World.cell?_alloc_lt _ _ _ (by simp; omega), World.cell?_alloc_lt _ _ _ (by show b < _; omega)]
        exact hc j hlt
      clear hc
      have hx2 := HQ.out (q.getD j 0) (getD_mem q j (by rw [HL.out]; exact hlt))
      have hs : atTo q (j + 1) = fun y => if q.getD j 0 = y then (j : Int) else atTo q j y := rfl
      have HS := Lib.hid hs
      clear hs
      generalize q.getD j 0 = x at *
      obtain ⟨i, rfl⟩ : ∃ i : Nat, x = i := ⟨x.toNat, by omega⟩
      have hse : (six (atTo q j))[i]? = some (.int .i64 (atTo q j i)) := six_at _ (by omega)
      go_wp2
      go_roundw
      case rel => exact ⟨j + 1, by omega, by go_num, by rw [HS.out, ← six_set]⟩
      case measure => simp [intOf]; omega
    · obtain rfl : j = n := by omega
      unfold six
      go_wp2
      exact bodyPost_ret (v := .agg (six (atTo q j))) (by simp [results, Try.results104, go_sem, six]) rfl ⟨rfl, ((Below.refl _ _).alloc (Nat.le_refl _) _).alloc (by simp) _⟩
end Go.Proofs.Ythcaipnlgbnfkaa

/-
  plumeref.Places at orders: what it returns; nothing that was there is written.
-/
import Derived.Test.YtcjhgkmodfkmoaaPush
import Derived.Test.YtcjhgkmodfkmoaaPureA
import Derived.WalkKit
import Derived.KernelRfl
import Derived.Laws.NewBlocks
namespace Go.Proofs.Ytcjhgkmodfkmoaa
open Go.RowKit Fm
set_option linter.unusedVariables false

set_option maxHeartbeats 1000000 in
set_option maxRecDepth 100000 in
theorem places2_any {n : Nat} {p : List Int} (hp : p.Perm (sides n)) (h1 : 1 ≤ n) (h6 : n ≤ 6) (a : Option Addr) (c : Nat) (w : World) (B : Nat) (hB : B ≤ w.heap.size) (rp : Rd w B a n p) :
    Calls Try.prog 32 #[.slice a n c] w fun e w' => e = .returned (.slice (some ⟨w.heap.size, 0, none⟩) n n) ∧ w'.ownsRow w.heap.size 3 1 (.slice (some ⟨w.heap.size, 0, none⟩) n n) n (I ((sides n).map (pos p))) ∧ Below w.heap.size w w' := by
  have hmk : ∀ W : World, (Instr.makeSlice 22 (.int .i64 n) (.int .i64 n)).run Try.prog W = .ok (.slice (some ⟨W.heap.size, 0, none⟩) n n) (W.alloc (.cells (zeros n) 3)) := make_ints n (by omega)
  obtain ⟨b, o, rfl, hb, hcell⟩ := rp.2 (by omega)
  have HCELL := Lib.hid hcell
  have HLP := Lib.hid rp.1
  have HIN : Hid (∀ x ∈ p, 0 ≤ x ∧ x < n) := fun x hx => mem_sides.1 (hp.mem_iff.1 hx)
  clear hcell rp
  go_enter Try.func32, Try.ntmps32
  go_wp2
  clear hmk
  have hz := own_lit w 3 (List.replicate n 0) (zeros n) rfl (by unfold maxLen; simp; omega)
  rw [List.length_replicate] at hz
  have e0 : List.replicate n (0 : Int) = (sides n).map (atTo p 0) := by
    apply List.ext_getElem
    · simp [sides_len]
    · intro j h1 h2; simp [atTo]
  rw [e0] at hz
  have hb0 : Below w.heap.size w (w.alloc (.cells (zeros n) 3)) := (Below.refl _ w).alloc (Nat.le_refl _) _
  go_loopw [11] (fun i wr => ∃ k : Nat, k ≤ n ∧ i = .int .i64 k ∧ wr.ownsRow w.heap.size 3 1 (.slice (some ⟨w.heap.size, 0, none⟩) n n) n (I ((sides n).map (atTo p k))) ∧ Below w.heap.size w wr) (fun i _ => n - (intOf i).toNat)
  case atStart => exact ⟨0, Nat.zero_le _, rfl, hz, hb0⟩
  case round =>
    obtain ⟨k, hk, rfl, hown, hbel⟩ := hrel
    clear hz hb0 e0
    by_cases hlt : k < n
    · have cx : wr.cell? ⟨b, o + k, none⟩ = some (.int .i64 (p.getD k 0)) := (hbel.cell (by show b < _; omega)).trans (HCELL.out k hlt)
      have hin := HIN.out (p.getD k 0) (getD_mem p k (by rw [HLP.out]; exact hlt))
      obtain ⟨i, hi⟩ : ∃ i : Nat, p.getD k 0 = i := ⟨(p.getD k 0).toNat, by omega⟩
      have hin2 : i < n := by omega
      have HI := Lib.hid hi
      rw [hi] at cx
      clear hi hin
      have ck := own_cell hown i hin2
      have fk := hown.frozenAt i
      have s1 := hown.stored i (.int .i64 k)
      have e1 : (I ((sides n).map (atTo p k))).set i (.int .i64 k) = I ((sides n).map (atTo p (k + 1))) := by
        rw [← map_set_at p k hin2 HI.out]
        unfold I
        rw [List.map_set]
      rw [e1] at s1
      obtain ⟨s1, s2⟩ := s1
      have hb1 := hbel.grown s2 hbel.size (fun j hj => by injection hj with hj; omega)
      generalize ((sides n).map (atTo p k)).getD i 0 = old at *
      clear hown hbel e1 s2
      go_wp2
      go_roundw
      case rel => exact ⟨k + 1, by omega, by go_num, s1, hb1⟩
      case measure => simp [intOf]; omega
    · obtain rfl : k = n := by omega
      have e2 : (sides k).map (atTo p k) = (sides k).map (pos p) := by unfold pos; rw [HLP.out]
      rw [e2] at hown
      clear e2
      go_wp2
      go_ret
      exact ⟨rfl, hown, hbel⟩
end Go.Proofs.Ytcjhgkmodfkmoaa

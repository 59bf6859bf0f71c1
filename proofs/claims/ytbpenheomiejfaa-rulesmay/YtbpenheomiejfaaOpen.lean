/-
  An argument of a law, opened: a slice of ints, a slice of slices of ints, as the row's own reading gives it: over any program.
-/
import Derived.Test.YtbpenheomiejfaaRows2
import Derived.ProofKit
import Derived.OpenShut
import Derived.SizedLaws
import Derived.Deep.Matrix
namespace Fm
open Go Go.RowKit Go.ChangeShapes Go.WideShapes Go.Deep
set_option linter.unusedVariables false

def Ok64 (x : Int) : Prop := -9223372036854775808 ≤ x ∧ x ≤ 9223372036854775807
/-- The value is a slice that reads as the ints l. -/
def IsInts (w : World) (v : Value) (l : List Int) : Prop :=
  ∃ a c, v = .slice a l.length c ∧ Rd w w.heap.size a l.length l ∧ (∀ x ∈ l, Ok64 x) ∧ l.length ≤ c ∧ (a = none → c = 0) ∧ c ≤ maxLen ∧ l.length * 8 ≤ 140737488355328
/-- The value is a slice of slices that reads as L. -/
def IsRows (w : World) (v : Value) (L : List (List Int)) : Prop :=
  ∃ a c, v = .slice a L.length c ∧ RdR w w.heap.size a L.length L ∧ (∀ l ∈ L, (∀ x ∈ l, Ok64 x) ∧ l.length * 8 ≤ 140737488355328) ∧ L.length ≤ c ∧ (a = none → c = 0) ∧ c ≤ maxLen ∧ L.length * 24 ≤ 140737488355328

section
variable {H : Type} {enc : TypeId × Value → H} {P : Program} {w : World} {ts : List TypeId} {ds : List (DataW H)}

theorem open_isInts {t e : TypeId} {v : Value} {d : DataW H} {p : List MemPlace} (ht : P.underlying t = some (.slice e)) (he : P.underlying e = some (.int .i64)) (hc : P.cellsOf e = 1) (hb : P.bytesOf e = 8) {r : Reach} {bs : Nat}
    (hv : Value.okWide P w r bs t v) (h : DataW.Trod enc P w 0 (fun _ => true) true t v d p) (hsz : (DataW.weightsEach P ts ds).all (· ≤ reachBytes) = true) {j : Nat} (hj : ts[j]? = some t) (hd : ds[j]? = some d) : ∃ l, IsInts w v l := by
  obtain ⟨a, len, cap, rfl⟩ := okWide_slice ht hv
  obtain ⟨fuel, hf⟩ := h
  rcases open_ints ht he hc hf with ⟨hcs, _⟩ | ⟨x, l, c, zs, hcs, _, hl, hm, hz, hx, hcell, hwz⟩
  · simp [Value.cells] at hcs
    obtain ⟨rfl, rfl, rfl⟩ := hcs
    exact ⟨[], none, 0, rfl, Rd.nil_, fun x hx => by simp at hx, Nat.le_refl _, fun _ => rfl, by unfold maxLen; omega, by simp⟩
  · simp [Value.cells] at hcs
    obtain ⟨rfl, rfl, rfl⟩ := hcs
    have hzl : zs.length = cap := by simpa using hz
    have hdd := (Prod.mk.inj hx).1
    rw [hdd] at hd
    have hs := sized_slice hsz hj hd ht
    rw [hb] at hs
    simp only [lits, List.length_map, List.length_take, List.length_drop, reachBytes] at hs
    have e1 : (zs.take len).length = len := by rw [List.length_take]; omega
    refine ⟨zs.take len, some x, cap, by rw [e1], ?_, fun y hy => bounds_i64 (hwz y (List.mem_of_mem_take hy)), by rw [e1]; exact hl, (fun h => by cases h), hm, by rw [e1]; omega⟩
    rw [e1]
    exact Rd.of_cells (by omega) hcell

theorem weights_in {t e q : TypeId} {elems spare e' sp' : List (DataW H)} (hsz : (DataW.weightsEach P ts ds).all (· ≤ reachBytes) = true) {j : Nat} (hj : ts[j]? = some t) (hd : ds[j]? = some (.slice elems spare)) (ht : P.underlying t = some (.slice e)) (he : P.underlying e = some (.slice q))
    (hx : DataW.slice e' sp' ∈ elems) : (e'.length + sp'.length) * P.bytesOf q ≤ reachBytes := by
  refine of_decide_eq_true (List.all_eq_true.1 hsz _ (DataW.weights_mem_each hj hd _ ?_))
  simp only [DataW.weights, ht, List.mem_cons, List.mem_append]
  refine Or.inr (Or.inl ?_)
  clear hd hsz hj
  induction elems with
  | nil => simp at hx
  | cons y ys ih =>
    simp only [DataW.weightsAll, List.mem_append]
    rcases List.mem_cons.1 hx with h | h
    · left; rw [← h]; simp [DataW.weights, he]
    · right; exact ih h

theorem open_isRows {t e q : TypeId} {v : Value} {d : DataW H} {p : List MemPlace} (ht : P.underlying t = some (.slice e)) (he : P.underlying e = some (.slice q)) (hq : P.underlying q = some (.int .i64)) (ce : P.cellsOf e = 1) (cq : P.cellsOf q = 1) (be : P.bytesOf e = 24) (bq : P.bytesOf q = 8) {r : Reach} {bs : Nat}
    (hv : Value.okWide P w r bs t v) (h : DataW.Trod enc P w 0 (fun _ => true) true t v d p) (hsz : (DataW.weightsEach P ts ds).all (· ≤ reachBytes) = true) {j : Nat} (hj : ts[j]? = some t) (hd : ds[j]? = some d) : ∃ L, IsRows w v L := by
  obtain ⟨a, len, cap, rfl⟩ := okWide_slice ht hv
  obtain ⟨fuel, hf⟩ := h
  rcases open_int_rows ht he hq ce cq hf with ⟨hcs, _⟩ | ⟨x, l, c, A, Ln, C, Z, hcs, _, hl, hm, hx, hrow⟩
  · simp [Value.cells] at hcs
    obtain ⟨rfl, rfl, rfl⟩ := hcs
    exact ⟨[], none, 0, rfl, RdR.nil_, fun l hl => by simp at hl, Nat.le_refl _, fun _ => rfl, by unfold maxLen; omega, by simp⟩
  · simp [Value.cells] at hcs
    obtain ⟨rfl, rfl, rfl⟩ := hcs
    have hdd := (Prod.mk.inj hx).1
    rw [hdd] at hd
    have hs := sized_slice hsz hj hd ht
    rw [be] at hs
    simp only [List.length_map, List.length_range, reachBytes] at hs
    have e1 : ((List.range len).map fun i => (Z i).take (Ln i)).length = len := by simp
    have e2 : ∀ i, i < len → ((List.range len).map fun i => (Z i).take (Ln i)).getD i [] = (Z i).take (Ln i) := fun i hi => by
      rw [List.getD_eq_getElem?_getD, List.getElem?_map, List.getElem?_range hi]; rfl
    have e3 : ∀ i, i < len → ((Z i).take (Ln i)).length = Ln i := fun i hi => by
      have := hrow i (by omega); rw [List.length_take]; omega
    refine ⟨(List.range len).map fun i => (Z i).take (Ln i), some x, cap, by rw [e1], ?_, fun l hl => ?_, by rw [e1]; exact hl, (fun h => by cases h), hm, by rw [e1]; omega⟩
    · rw [e1]
      refine ⟨e1, fun hn => ?_⟩
      have h0 := (hrow 0 (by omega)).1
      have ex : x.add 0 = x := by simp [Addr.add]
      rw [ex] at h0
      have hlt := World.block_lt_of_cell? w x h0
      obtain ⟨b, o, sp⟩ := x
      have hsp : sp = none := by
        cases sp with
        | none => rfl
        | some s =>
          exfalso
          simp only [World.cell?] at h0
          split at h0 <;> simp at h0
      subst hsp
      refine ⟨b, o, rfl, hlt, fun i hi => ?_⟩
      obtain ⟨h1, h2, h3, h4, h5, h6, h7⟩ := hrow i (by omega)
      have ea : (⟨b, o, none⟩ : Addr).add i = ⟨b, o + i, none⟩ := by unfold Addr.add; split <;> simp_all
      rw [ea] at h1
      rw [e2 i hi, e3 i hi]
      refine ⟨A i, C i, h1, h2, h6, h3, ?_⟩
      cases hA : A i with
      | none =>
        have := h6 hA
        have hl0 : Ln i = 0 := by omega
        rw [hl0]
        exact Rd.nil_
      | some a' => exact Rd.of_cells (by omega) (fun c hc => (h7 a' hA).2 c (by omega))
    · rw [List.mem_map] at hl
      obtain ⟨i, hi, rfl⟩ := hl
      have hi := List.mem_range.1 hi
      obtain ⟨h1, h2, h3, h4, h5, h6, h7⟩ := hrow i (by omega)
      refine ⟨fun y hy => bounds_i64 (h5 y (List.mem_of_mem_take hy)), ?_⟩
      rw [e3 i hi]
      cases hA : A i with
      | none => have := h6 hA; omega
      | some a' =>
        have hmem : (DataW.slice (lits .i64 ((Z i).take (Ln i))) (lits .i64 ((Z i).drop (Ln i))) : DataW H) ∈ (List.range len).map fun r => intRow .i64 (A r) (Ln r) (Z r) := by
          rw [List.mem_map]
          exact ⟨i, List.mem_range.2 hi, by simp [intRow, hA]⟩
        have hw := weights_in hsz hj hd ht he hmem
        rw [bq] at hw
        simp only [lits, List.length_map, List.length_take, List.length_drop, reachBytes] at hw
        omega
end
end Fm

/-
  plumelaw.rows at rows that read alike returns true; nothing is written.
-/
import Derived.Test.YtcecpcibfbfanaaCEqual
import Derived.Test.YtcecpcibfbfanaaPureA
import Derived.WalkKit
import Derived.KernelRfl
import Derived.Laws.NewBlocks
namespace Go.Proofs.Ytcecpcibfbfanaa
open Go.RowKit Fm
set_option linter.unusedVariables false

set_option maxHeartbeats 1000000 in
set_option maxRecDepth 100000 in
/-- slices.EqualFunc by slices.Equal, of two slices of slices that read as one list. -/
theorem equalFunc_same (L : List (List Int)) (v1 v2 : Value) (vs1 vs2 : List Value) (b1 b2 : Nat) (w : World) (hL : L.length ≤ 1000000) (hLL : ∀ j, j < L.length → (L.getD j []).length ≤ 1000000)
    (o1 : w.ownsRow b1 35 1 v1 L.length vs1) (e1 : Elems w b1 3 vs1 L) (o2 : w.ownsRow b2 35 1 v2 L.length vs2) (e2 : Elems w b2 3 vs2 L) (hpos : 0 < L.length) :
    Calls Try.prog 21 #[v1, v2, .func (.func 22) #[] #[]] w fun e w' => e = .returned (.bool true) ∧ ∃ k, w' = w.drewN k := by
  obtain ⟨g1, c1, rfl, _, _⟩ := o1.form hpos
  obtain ⟨g2, c2, rfl, _, _⟩ := o2.form hpos
  have O1 := Lib.hid o1
  have O2 := Lib.hid o2
  have E1 := Lib.hid e1
  have E2 := Lib.hid e2
  have HLL := Lib.hid hLL
  clear o1 o2 e1 e2 hLL
  go_enter Try.func21, Try.ntmps21
  go_wp2_with fail
  go_loopw [17] (fun i wr => ∃ j m : Nat, j ≤ L.length ∧ i = .int .i64 j ∧ wr = w.drewN m) (fun i _ => L.length - (intOf i).toNat)
  case atStart => exact ⟨0, 0, Nat.zero_le _, rfl, rfl⟩
  case round =>
    obtain ⟨j, m, hj, rfl, rfl⟩ := hrel
    by_cases hlt : j < L.length
    · obtain ⟨u1, hu1, ou1⟩ := E1.out.at_ hlt
      obtain ⟨u2, hu2, ou2⟩ := E2.out.at_ hlt
      obtain ⟨p1, q1, rfl, _, _⟩ := own_slice ou1
      obtain ⟨p2, q2, rfl, _, _⟩ := own_slice ou2
      have c1' : w.cell? ⟨g1, j, none⟩ = some (.slice p1 (L.getD j []).length q1) := by rw [O1.out.cellAt j (by omega)]; exact hu1
      have c2' : w.cell? ⟨g2, j, none⟩ = some (.slice p2 (L.getD j []).length q2) := by rw [O2.out.cellAt j (by omega)]; exact hu2
      have R1 := Lib.hid (Rd.of_own ou1)
      have R2 := Lib.hid (Rd.of_own ou2)
      have hlj := HLL.out j hlt
      clear hu1 hu2 ou1 ou2
      generalize L.getD j [] = l at *
      go_wp2_with fail
      refine (equal_any l l p1 p2 l.length q1 l.length q2 _ w.heap.size (R1.out.drewN m) (R2.out.drewN m) (by omega) (by omega)).mono ?_
      rintro e w1 ⟨rfl, k, rfl⟩
      go_wp2
      go_roundw
      case rel => exact ⟨j + 1, m + k, by omega, by go_num, by simp⟩
      case measure => simp [intOf]; omega
    · go_wp2
      go_ret
      exact ⟨rfl, m, rfl⟩

set_option maxHeartbeats 400000 in
set_option maxRecDepth 100000 in
theorem rows_same (L : List (List Int)) (v1 v2 : Value) (vs1 vs2 : List Value) (b1 b2 : Nat) (w : World) (hL : L.length ≤ 1000000) (hLL : ∀ j, j < L.length → (L.getD j []).length ≤ 1000000)
    (o1 : w.ownsRow b1 35 1 v1 L.length vs1) (e1 : Elems w b1 3 vs1 L) (o2 : w.ownsRow b2 35 1 v2 L.length vs2) (e2 : Elems w b2 3 vs2 L) (hpos : 0 < L.length) :
    Calls Try.prog 16 #[v1, v2] w fun e w' => e = .returned (.bool true) ∧ ∃ k, w' = w.drewN k := by
  have H := Lib.hid (equalFunc_same L v1 v2 vs1 vs2 b1 b2 w hL hLL o1 e1 o2 e2 hpos)
  obtain ⟨g1, c1, rfl, _, _⟩ := o1.form hpos
  obtain ⟨g2, c2, rfl, _, _⟩ := o2.form hpos
  clear o1 e1 o2 e2 hLL
  go_enter Try.func16, Try.ntmps16
  go_wp2_with fail
  refine H.out.mono ?_
  rintro e w1 ⟨rfl, k, rfl⟩
  go_wp2
  go_ret
  exact ⟨rfl, k, rfl⟩

set_option maxHeartbeats 1000000 in
set_option maxRecDepth 100000 in
/-- slices.EqualFunc by slices.Equal, of two slices of slices that read as one list, wherever they lie. -/
theorem equalFunc_rd (L : List (List Int)) (a1 a2 : Option Addr) (n c1 c2 : Nat) (w : World) (B : Nat) (hL : n ≤ 1000000) (hLL : ∀ l ∈ L, l.length ≤ 1000000) (r1 : RdR w B a1 n L) (r2 : RdR w B a2 n L) :
    Calls Try.prog 21 #[.slice a1 n c1, .slice a2 n c2, .func (.func 22) #[] #[]] w fun e w' => e = .returned (.bool true) ∧ ∃ k, w' = w.drewN k := by
  have R1 := Lib.hid r1
  have R2 := Lib.hid r2
  have HN := Lib.hid r1.1
  have HLL := Lib.hid hLL
  clear r1 r2 hLL
  go_enter Try.func21, Try.ntmps21
  go_wp2_with fail
  go_loopw [17] (fun i wr => ∃ j m : Nat, j ≤ n ∧ i = .int .i64 j ∧ wr = w.drewN m) (fun i _ => n - (intOf i).toNat)
  case atStart => exact ⟨0, 0, Nat.zero_le _, rfl, rfl⟩
  case round =>
    obtain ⟨j, m, hj, rfl, rfl⟩ := hrel
    by_cases hlt : j < n
    · obtain ⟨b1, o1, p1, q1, rfl, _, d1, _, _, _, e1⟩ := R1.out.at_ hlt
      obtain ⟨b2, o2, p2, q2, rfl, _, d2, _, _, _, e2⟩ := R2.out.at_ hlt
      have hjl : j < L.length := by rw [HN.out]; exact hlt
      have hlj := HLL.out (L.getD j []) (by rw [List.getD_eq_getElem?_getD, List.getElem?_eq_getElem hjl]; exact List.getElem_mem hjl)
      have S1 := Lib.hid e1
      have S2 := Lib.hid e2
      clear e1 e2
      generalize L.getD j [] = l at *
      go_wp2_with fail
      refine (equal_any l l p1 p2 l.length q1 l.length q2 _ B (S1.out.drewN m) (S2.out.drewN m) (by omega) (by omega)).mono ?_
      rintro e w1 ⟨rfl, k, rfl⟩
      go_wp2
      go_roundw
      case rel => exact ⟨j + 1, m + k, by omega, by go_num, by simp⟩
      case measure => simp [intOf]; omega
    · go_wp2
      go_ret
      exact ⟨rfl, m, rfl⟩

set_option maxHeartbeats 400000 in
set_option maxRecDepth 100000 in
theorem rows_rd (L : List (List Int)) (a1 a2 : Option Addr) (n c1 c2 : Nat) (w : World) (B : Nat) (hL : n ≤ 1000000) (hLL : ∀ l ∈ L, l.length ≤ 1000000) (r1 : RdR w B a1 n L) (r2 : RdR w B a2 n L) :
    Calls Try.prog 16 #[.slice a1 n c1, .slice a2 n c2] w fun e w' => e = .returned (.bool true) ∧ ∃ k, w' = w.drewN k := by
  have H := Lib.hid (equalFunc_rd L a1 a2 n c1 c2 w B hL hLL r1 r2)
  clear r1 r2 hLL
  go_enter Try.func16, Try.ntmps16
  go_wp2_with fail
  refine H.out.mono ?_
  rintro e w1 ⟨rfl, k, rfl⟩
  go_wp2
  go_ret
  exact ⟨rfl, k, rfl⟩
end Go.Proofs.Ytcecpcibfbfanaa

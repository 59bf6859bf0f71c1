/-
  order.Place: what it answers, for every slice of ints and every int; nothing that was there is written.
-/
import Derived.Test.YtbpenheomiejfaaCCheck
import Derived.Test.YtbpenheomiejfaaCIndex
import Derived.WalkKit
import Derived.KernelRfl
import Derived.Laws.NewBlocks
namespace Go.Proofs.Ytbpenheomiejfaa
open Go.RowKit Fm
set_option linter.unusedVariables false

section
variable (p : List Int) (x : Int) (a : Option Addr) (n c : Nat) (w : World) (B : Nat) (hB : B ≤ w.heap.size) (hp : Rd w B a n p)
include hB hp

set_option maxHeartbeats 400000 in
set_option maxRecDepth 100000 in
theorem place_bad (r : Int) (hr : chk n p = r) (hr0 : r ≠ 0) :
    Calls Try.prog 57 #[.slice a n c, .int .i64 x] w fun e w' => e = .returned (.tuple #[.int .i64 0, .int .i64 r]) ∧ Below w.heap.size w w' := by
  have hne : (r != 0) = true := by simpa using hr0
  have HR := Lib.hid hr
  clear hr hr0
  go_enter Try.func57, Try.ntmps57
  go_wp2_with fail
  refine (check_any n a n c p w B hB hp).mono ?_
  rintro e w1 ⟨rfl, hb⟩
  rw [HR.out]
  go_wp2
  go_ret2
  exact ⟨rfl, hb⟩

set_option maxHeartbeats 400000 in
set_option maxRecDepth 100000 in
theorem place_none (h0 : chk n p = 0) (hx : x ∉ p) :
    Calls Try.prog 57 #[.slice a n c, .int .i64 x] w fun e w' => e = .returned (.tuple #[.int .i64 0, .int .i64 4]) ∧ Below w.heap.size w w' := by
  have h6 := (chk_zero h0).1
  have HR := Lib.hid h0
  have HX := Lib.hid (idx_miss hx)
  have HP := Lib.hid hp
  clear h0 hx hp
  go_enter Try.func57, Try.ntmps57
  go_wp2_with fail
  refine (check_any n a n c p w B hB HP.out).mono ?_
  rintro e w1 ⟨rfl, hb⟩
  rw [HR.out]
  go_wp2_with fail
  refine (index_any p x a n c w1 B (HP.out.below hb hB) (by omega)).mono ?_
  rintro e w2 ⟨rfl, rfl⟩
  rw [HX.out]
  go_wp2
  go_ret2
  exact ⟨rfl, hb⟩

set_option maxHeartbeats 400000 in
set_option maxRecDepth 100000 in
theorem place_hit (k : Nat) (h0 : chk n p = 0) (hk : k < n) (hx : p.getD k 0 = x) :
    Calls Try.prog 57 #[.slice a n c, .int .i64 x] w fun e w' => e = .returned (.tuple #[.int .i64 k, .int .i64 0]) ∧ Below w.heap.size w w' := by
  obtain ⟨h6, hl, ho⟩ := chk_zero h0
  have HR := Lib.hid h0
  have HX := Lib.hid (idx_hit ho.2 (by omega) hx)
  have HP := Lib.hid hp
  clear h0 hx hp ho hl
  go_enter Try.func57, Try.ntmps57
  go_wp2_with fail
  refine (check_any n a n c p w B hB HP.out).mono ?_
  rintro e w1 ⟨rfl, hb⟩
  rw [HR.out]
  go_wp2_with fail
  refine (index_any p x a n c w1 B (HP.out.below hb hB) (by omega)).mono ?_
  rintro e w2 ⟨rfl, rfl⟩
  rw [HX.out]
  go_wp2
  go_ret2
  exact ⟨rfl, hb⟩
end
end Go.Proofs.Ytbpenheomiejfaa

/-
  order.Raise: what it answers, for every slice of ints and every int; nothing that was there is written.
-/
import Derived.Test.YtbpenheomiejfaaCPlace
import Derived.Test.YtbpenheomiejfaaCClone
import Derived.Test.YtbpenheomiejfaaPureA
import Derived.RegionTactic
import Derived.BigRegion
import Derived.WalkKit
import Derived.KernelRfl
import Derived.Laws.NewBlocks
namespace Go.Proofs.Ytbpenheomiejfaa
open Go.RowKit Fm
set_option linter.unusedVariables false

section
variable (p : List Int) (x : Int) (a : Option Addr) (n c : Nat) (w : World) (B : Nat) (hB : B ≤ w.heap.size) (hp : Rd w B a n p)
include hB hp

set_option maxHeartbeats 400000 in
set_option maxRecDepth 100000 in
theorem raise_bad (r : Int) (hr : chk n p = r) (hr0 : r ≠ 0) :
    Calls Try.prog 21 #[.slice a n c, .int .i64 x] w fun e w' => e = .returned (.tuple #[.slice none 0 0, .int .i64 r]) ∧ Below w.heap.size w w' := by
  have hne : (r != 0) = true := by simpa using hr0
  have HC := Lib.hid (place_bad p x a n c w B hB hp r hr hr0)
  clear hr hr0
  go_enter Try.func21, Try.ntmps21
  go_wp2_with fail
  refine HC.out.mono ?_
  rintro e w1 ⟨rfl, hb⟩
  go_wp2
  go_ret2
  exact ⟨rfl, hb⟩

set_option maxHeartbeats 400000 in
set_option maxRecDepth 100000 in
theorem raise_none (h0 : chk n p = 0) (hx : x ∉ p) :
    Calls Try.prog 21 #[.slice a n c, .int .i64 x] w fun e w' => e = .returned (.tuple #[.slice none 0 0, .int .i64 4]) ∧ Below w.heap.size w w' := by
  have HC := Lib.hid (place_none p x a n c w B hB hp h0 hx)
  clear h0 hx
  go_enter Try.func21, Try.ntmps21
  go_wp2_with fail
  refine HC.out.mono ?_
  rintro e w1 ⟨rfl, hb⟩
  go_wp2
  go_ret2
  exact ⟨rfl, hb⟩

set_option maxHeartbeats 400000 in
set_option maxRecDepth 100000 in
theorem raise_first (h0 : chk n p = 0) (hk : 0 < n) (hx : p.getD 0 0 = x) :
    Calls Try.prog 21 #[.slice a n c, .int .i64 x] w fun e w' => e = .returned (.tuple #[.slice none 0 0, .int .i64 6]) ∧ Below w.heap.size w w' := by
  have HC := Lib.hid (place_hit p x a n c w B hB hp 0 h0 hk hx)
  clear h0 hx
  go_enter Try.func21, Try.ntmps21
  go_wp2_with fail
  refine HC.out.mono ?_
  rintro e w1 ⟨rfl, hb⟩
  go_wp2
  go_ret2
  exact ⟨rfl, hb⟩
end




set_option maxHeartbeats 1000000 in
set_option maxRecDepth 100000 in
theorem raise_hit (p : List Int) (x : Int) (a : Option Addr) (n c : Nat) (w : World) (B : Nat) (hB : B ≤ w.heap.size) (hp : Rd w B a n p) (k : Nat) (h0 : chk n p = 0) (hk : k + 1 < n) (hx : p.getD (k + 1) 0 = x) :
    Calls Try.prog 21 #[.slice a n c, .int .i64 x] w fun e w' => ∃ g cap, e = .returned (.tuple #[.slice (some ⟨g, 0, none⟩) n cap, .int .i64 0]) ∧ n ≤ cap ∧ w'.ownsRow w.heap.size 3 1 (.slice (some ⟨g, 0, none⟩) n cap) n (I (swp p k)) ∧ Below w.heap.size w w' := by
  have hn6 := (chk_zero h0).1
  have HC := Lib.hid (place_hit p x a n c w B hB hp (k + 1) h0 hk hx)
  have HP := Lib.hid hp
  clear h0 hx hp
  have hkk : (((k + 1 : Nat) : Int) == 0) = false := by simp; omega
  go_enter Try.func21, Try.ntmps21
  go_wp2_with fail
  refine HC.out.mono ?_
  rintro e w1 ⟨rfl, hb⟩
  clear HC
  have hz := hb.size
  go_wp2_with fail
  refine (clone_any p a n c w1 B (HP.out.below hb hB) (by omega)).mono ?_
  rintro e w2 ⟨v, rfl, hown, hb2⟩
  obtain ⟨g, cap, rfl, hg1, hg2, hnc, hcm, hcell⟩ := own_form hown (by omega)
  have hz2 := hb2.size
  have c0 := hcell k (by omega)
  have c1 := hcell (k + 1) (by omega)
  have f0 := hown.frozenAt k
  have f1 := hown.frozenAt (k + 1)
  have HO := Lib.hid hown
  clear hcell hown
  unfold maxLen at hcm
  have b0 : (k : Int) < (n : Int) := by omega
  have b1 : (k : Int) + 1 < (n : Int) := by omega
  go_wp2_with fail
  go_region
  go_wp2
  go_ret2
  have s1 := HO.out.stored k (.int .i64 (p.getD (k + 1) 0))
  have s2 := s1.1.stored (k + 1) (.int .i64 (p.getD k 0))
  have e1 : ((I p).set k (.int .i64 (p.getD (k + 1) 0))).set (k + 1) (.int .i64 (p.getD k 0)) = I (swp p k) := by unfold I swp; rw [List.map_set, List.map_set]
  rw [e1] at s2
  refine ⟨g, cap, rfl, hnc, own_mono s2.1 hz, ?_⟩
  exact (((hb.trans (hb2.mono hz)).grown s1.2 (by omega) (fun j hj => by injection hj with hj; omega)).grown s2.2 (by simp [World.setCell]; omega) (fun j hj => by injection hj with hj; omega)).drew
end Go.Proofs.Ytbpenheomiejfaa

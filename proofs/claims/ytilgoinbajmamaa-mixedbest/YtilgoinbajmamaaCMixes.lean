/-
  plumekeep.mixes returns true, if mixed.Solve keeps its contract; plumekeep.two: what it returns.
-/
import Derived.Test.YtilgoinbajmamaaMixP
import Derived.Test.YtilgoinbajmamaaPayP
import Derived.Test.YtilgoinbajmamaaPureA
namespace Go.Proofs.Ytilgoinbajmamaa
open Go.RowKit Fm
set_option linter.unusedVariables false

def T6 : List (List Int) := [[1, -1], [-1, 1]]
theorem t6_ok : Pay 2 2 T6 := ⟨rfl, by decide, by decide, by decide, by decide, by decide, by decide⟩
theorem t6_val (p q : Int) : mval T6 p q 0 = 2 * p - q ∧ mval T6 p q 1 = q - 2 * p := by
  have e1 : ent T6 0 0 = 1 := rfl
  have e2 : ent T6 1 0 = -1 := rfl
  have e3 : ent T6 0 1 = -1 := rfl
  have e4 : ent T6 1 1 = 1 := rfl
  unfold mval
  rw [e1, e2, e3, e4]
  omega
theorem t6_sol : Sol T6 2 1 2 0 1 := by
  refine ⟨by decide, by decide, by decide, by decide, by decide, by decide, by decide, by decide, fun y hy => ?_, ⟨0, by decide, by decide⟩, fun p q h0 h1 h2 => ?_, fun p q h0 h1 h2 h3 => ?_⟩
  · have : y = 0 ∨ y = 1 := by omega
    rcases this with rfl | rfl <;> decide
  · obtain ⟨e1, e2⟩ := t6_val p q
    by_cases c : 2 * p ≤ q
    · exact ⟨0, by decide, by rw [e1]; omega⟩
    · exact ⟨1, by decide, by rw [e2]; omega⟩
  · obtain ⟨e1, e2⟩ := t6_val p q
    have a := h3 0 (by decide)
    have b := h3 1 (by decide)
    rw [e1] at a
    rw [e2] at b
    omega

set_option maxHeartbeats 4000000 in
set_option maxRecDepth 100000 in
theorem mixes_any (mS : MSolve) (w : World) :
    Calls Try.prog 11 #[] w fun e w' => e = .returned (.bool true) ∧ Below w.heap.size w w' := by
  have MS : Hid MSolve := mS
  clear mS
  have L1 := Lib.hid (lit2 w 3 36 [1, -1] [-1, 1] #[.int .i64 1, .int .i64 (-1)] #[.int .i64 (-1), .int .i64 1] rfl rfl (by decide) (by decide))
  have hgd := ratioGuard
  have h1 : ∀ w, (Op.equalIn 10000 24 (.agg #[.int .i64 1, .int .i64 2]) (.agg #[.int .i64 1, .int .i64 2])).run Try.prog w = .ok true w := fun w => by rw [ratioIn]; rfl
  have h2 : ∀ w, (Op.equalIn 10000 24 (.agg #[.int .i64 0, .int .i64 1]) (.agg #[.int .i64 0, .int .i64 1])).run Try.prog w = .ok true w := fun w => by rw [ratioIn]; rfl
  go_enter Try.func11, Try.ntmps11
  go_wp2_with fail
  obtain ⟨r1, b1⟩ := L1.out
  have q1 := MS.out 2 (some ⟨w.heap.size + 1 + 1, 0, none⟩) 2 2 T6 _ (tabIn_pay r1 t6_ok) t6_ok
  refine q1.mono ?_
  rintro e w1 ⟨P, Q, V, W, hs, rfl, hb1⟩
  obtain ⟨rfl, rfl, rfl, rfl⟩ := sol_one hs t6_sol
  have hb01 := ext_trans b1 hb1
  clear q1 r1 b1 hb1 L1 hs
  obtain ⟨u1, u2, u3, u4, _, hbx⟩ := boxes2 w1 24 1 2 0 1
  have hbf := ext_trans hb01 hbx
  clear hbx hb01
  go_wp2
  go_ret
  exact ⟨by first | rfl | simp, hbf⟩

/-- The first two rows. -/
theorem two_any (a : Option Addr) (m c : Nat) (M : List (List Int)) (w : World) (hr : RdR w w.heap.size a m M) (hm : m ≤ 17592186044416) (hmc : m ≤ c) (hcm : c ≤ 9223372036854775807) :
    Calls Try.prog 12 #[.slice a m c] w fun e w' => e = .returned (.slice a (min m 2) c) ∧ w = w' := by
  by_cases h : 2 < m
  · obtain ⟨b, o, rfl, _, _⟩ := hr.2 (by omega)
    have e : min m 2 = 2 := by omega
    rw [e]
    have h2 : (2 : Int) ≤ (c : Int) := by omega
    clear hr e
    go_enter Try.func12, Try.ntmps12
    go_wp2
    go_ret
    exact ⟨rfl, rfl⟩
  · have e : min m 2 = m := by omega
    rw [e]
    clear hr e
    go_enter Try.func12, Try.ntmps12
    go_wp2
    go_ret
    exact ⟨rfl, rfl⟩
end Go.Proofs.Ytilgoinbajmamaa

/-
  mixed.compare: 1, -1 or 0; nothing that was there is written.
-/
import Derived.Test.YtimjepakdldacaaMixP
import Derived.BigQuiet
import Derived.Deep.QuietTactic
namespace Go.Proofs.Ytimjepakdldacaa
open Go.RowKit Fm
set_option linter.unusedVariables false

def cmpI (a b : Int) : Int := if a < b then -1 else if b < a then 1 else 0
theorem cmpI_lt {a b : Int} (h : a < b) : cmpI a b = -1 := if_pos h
theorem cmpI_gt {a b : Int} (h : b < a) : cmpI a b = 1 := by unfold cmpI; rw [if_neg (by omega), if_pos h]
theorem cmpI_eq {a b : Int} (h : a = b) : cmpI a b = 0 := by unfold cmpI; rw [if_neg (by omega), if_neg (by omega)]

theorem mulBd {x y A B : Int} (hx : -A ≤ x ∧ x ≤ A) (hy : 0 ≤ y ∧ y ≤ B) (ha : 0 ≤ A) : -(A * B) ≤ x * y ∧ x * y ≤ A * B := by
  have h1 : -A * y ≤ x * y := Int.mul_le_mul_of_nonneg_right hx.1 hy.1
  have h2 : x * y ≤ A * y := Int.mul_le_mul_of_nonneg_right hx.2 hy.1
  have h3 : A * y ≤ A * B := Int.mul_le_mul_of_nonneg_left hy.2 ha
  have h4 : -A * y = -(A * y) := Int.neg_mul _ _
  omega

set_option maxRecDepth 100000 in
theorem nan64_any (x : Int) (w : World) : Calls Try.prog 68 #[.int .i64 x] w fun e w' => e = .returned (.bool false) ∧ w' = w := by
  go_enter Try.func68, Try.ntmps68
  go_wp2_with fail
  go_ret
  exact ⟨rfl, rfl⟩

set_option maxRecDepth 100000 in
theorem cmp64_any (x y : Int) (w : World) : Calls Try.prog 60 #[.int .i64 x, .int .i64 y] w fun e w' => e = .returned (.int .i64 (cmpI x y)) ∧ w' = w := by
  obtain ⟨r, hr⟩ : ∃ r, cmpI x y = r := ⟨_, rfl⟩
  rw [hr]
  have HR := Lib.hid hr
  clear hr
  go_enter Try.func60, Try.ntmps60
  go_wp2_with fail
  refine (nan64_any x w).mono ?_
  rintro e w' ⟨rfl, rfl⟩
  go_wp2_with fail
  refine (nan64_any y w').mono ?_
  rintro e w' ⟨rfl, rfl⟩
  rcases Int.lt_trichotomy x y with h | h | h
  · obtain rfl := (cmpI_lt h).symm.trans HR.out
    clear HR
    go_wp2
    go_ret
    exact ⟨rfl, rfl⟩
  · obtain rfl := (cmpI_eq h).symm.trans HR.out
    clear HR
    go_wp2
    go_ret
    exact ⟨rfl, rfl⟩
  · obtain rfl := (cmpI_gt h).symm.trans HR.out
    have d1 : decide (x < y) = false := decide_eq_false (by omega)
    clear HR
    go_wp2
    go_ret
    exact ⟨rfl, rfl⟩

set_option maxHeartbeats 1000000 in
set_option maxRecDepth 100000 in
theorem mcmp_any (a b c d : Int) (ha1 : -4000000 ≤ a) (ha2 : a ≤ 4000000) (hb1 : 0 ≤ b) (hb2 : b ≤ 4000) (hc1 : -4000000 ≤ c) (hc2 : c ≤ 4000000) (hd1 : 0 ≤ d) (hd2 : d ≤ 4000) (w : World) :
    Calls Try.prog 46 #[.agg #[.int .i64 a, .int .i64 b], .agg #[.int .i64 c, .int .i64 d]] w fun e w' => e = .returned (.int .i64 (cmpI (a * d) (c * b))) ∧ Below w.heap.size w w' := by
  have x1 := mulBd (x := a) (y := d) (A := 4000000) (B := 4000) ⟨ha1, ha2⟩ ⟨hd1, hd2⟩ (by omega)
  have y1 := mulBd (x := c) (y := b) (A := 4000000) (B := 4000) ⟨hc1, hc2⟩ ⟨hb1, hb2⟩ (by omega)
  obtain ⟨X, hX⟩ : ∃ X, a * d = X := ⟨_, rfl⟩
  obtain ⟨Y, hY⟩ : ∃ Y, c * b = Y := ⟨_, rfl⟩
  rw [hX] at x1 ⊢
  rw [hY] at y1 ⊢
  obtain ⟨x1, x2⟩ := x1
  obtain ⟨y1, y2⟩ := y1
  have hb := boxes2 w 45 a b c d
  obtain ⟨u1, u2, u3, u4, _, hbx⟩ := hb
  go_enter Try.func46, Try.ntmps46
  go_wp2_with fail
  refine (cmp64_any X Y _).mono ?_
  rintro e w' ⟨rfl, rfl⟩
  go_wp2
  go_ret
  exact ⟨rfl, hbx⟩
end Go.Proofs.Ytimjepakdldacaa

/-
  plumekeep.gives at a table of two rows, where each column gives enough: true; nothing that was there is written.
-/
import Derived.Test.YtilgoinbajmamaaMixP
import Derived.Test.YtilgoinbajmamaaSqPay
import Derived.BigQuiet
import Derived.Deep.QuietTactic
namespace Go.Proofs.Ytilgoinbajmamaa
open Go.RowKit Fm
set_option linter.unusedVariables false

theorem mul_bd {x y a b : Int} (hx : -a ≤ x ∧ x ≤ a) (hy : 0 ≤ y ∧ y ≤ b) (ha : 0 ≤ a) : -(a * b) ≤ x * y ∧ x * y ≤ a * b := by
  have h1 : -a * y ≤ x * y := Int.mul_le_mul_of_nonneg_right hx.1 hy.1
  have h2 : x * y ≤ a * y := Int.mul_le_mul_of_nonneg_right hx.2 hy.1
  have h3 : a * y ≤ a * b := Int.mul_le_mul_of_nonneg_left hy.2 ha
  have h4 : -a * y = -(a * y) := Int.neg_mul _ _
  omega
/-- The parts of what a column gives, as letters. -/
theorem col_parts {M : List (List Int)} {k : Nat} (p : Pay 2 k M) {P Q V W : Int} (hp : 0 ≤ P) (hpq : P ≤ Q) (hq : Q ≤ 5000) (hv : -4000000 ≤ V ∧ V ≤ 4000000) (hw : 1 ≤ W) (hwb : W ≤ 4000) (y : Nat) :
    ∃ A B C D : Int, ent M 0 y * P = A ∧ ent M 1 y * (Q - P) = B ∧ (A + B) * W = C ∧ V * Q = D ∧ W * mval M P Q y = C ∧ -5000000 ≤ A ∧ A ≤ 5000000 ∧ -5000000 ≤ B ∧ B ≤ 5000000 ∧ -40000000000 ≤ C ∧ C ≤ 40000000000 ∧ -20000000000 ≤ D ∧ D ≤ 20000000000 := by
  have h0 := p.ent 0 y
  have h1 := p.ent 1 y
  have a1 := mul_bd (x := ent M 0 y) (y := P) (a := 1000) (b := 5000) ⟨by omega, by omega⟩ ⟨hp, by omega⟩ (by omega)
  have a2 := mul_bd (x := ent M 1 y) (y := Q - P) (a := 1000) (b := 5000) ⟨by omega, by omega⟩ ⟨by omega, by omega⟩ (by omega)
  have a3 := mul_bd (x := ent M 0 y * P + ent M 1 y * (Q - P)) (y := W) (a := 10000000) (b := 4000) ⟨by omega, by omega⟩ ⟨by omega, by omega⟩ (by omega)
  have a4 := mul_bd (x := V) (y := Q) (a := 4000000) (b := 5000) ⟨by omega, by omega⟩ ⟨by omega, by omega⟩ (by omega)
  refine ⟨_, _, _, _, rfl, rfl, rfl, rfl, ?_, by omega, by omega, by omega, by omega, by omega, by omega, by omega, by omega⟩
  unfold mval
  exact Int.mul_comm _ _

set_option maxHeartbeats 4000000 in
set_option maxRecDepth 100000 in
theorem gives_any {M : List (List Int)} {k : Nat} (p : Pay 2 k M) {P Q V W : Int} (hp : 0 ≤ P) (hpq : P ≤ Q) (hq : Q ≤ 5000) (hv : -4000000 ≤ V ∧ V ≤ 4000000) (hw : 1 ≤ W) (hwb : W ≤ 4000) (hs : ∀ y, y < k → V * Q ≤ W * mval M P Q y)
    (a : Option Addr) (n c : Nat) (w : World) (hr : RdR w w.heap.size a n M) :
    Calls Try.prog 13 #[.slice a n c, .int .i64 P, .int .i64 Q, .agg #[.int .i64 V, .int .i64 W]] w fun e w' => e = .returned (.bool true) ∧ Below w.heap.size w w' := by
  obtain ⟨rfl, b, o, rfl, hb, hsq⟩ := rdr_sqP hr p
  have k1 := p.k1
  have k6 := p.k6
  obtain ⟨b0, o0, c0, hb0, hr0, hk0, hm0, hc0⟩ := hsq 0 (by omega)
  obtain ⟨b1, o1, c1, hb1, hr1, hk1, hm1, hc1⟩ := hsq 1 (by omega)
  rw [Nat.add_zero] at hr0
  have HP : Hid (∀ y, y < k → ∃ A B C D : Int, ent M 0 y * P = A ∧ ent M 1 y * (Q - P) = B ∧ (A + B) * W = C ∧ V * Q = D ∧ D ≤ C ∧ -5000000 ≤ A ∧ A ≤ 5000000 ∧ -5000000 ≤ B ∧ B ≤ 5000000 ∧ -40000000000 ≤ C ∧ C ≤ 40000000000 ∧ -20000000000 ≤ D ∧ D ≤ 20000000000) := fun y hy => by
    obtain ⟨A, B, C, D, e1, e2, e3, e4, e5, r⟩ := col_parts p hp hpq hq hv hw hwb y
    have := hs y hy
    exact ⟨A, B, C, D, e1, e2, e3, e4, by rw [← e4, ← e5]; exact this, r⟩
  have HC0 := Lib.hid hc0
  have HC1 := Lib.hid hc1
  obtain ⟨x1, x2⟩ : (w.alloc (.cells #[.int .i64 V, .int .i64 W] 24)).cell? ⟨w.heap.size, 0, none⟩ = some (.int .i64 V) ∧ (w.alloc (.cells #[.int .i64 V, .int .i64 W] 24)).cell? ⟨w.heap.size, 1, none⟩ = some (.int .i64 W) := by constructor <;> simp [World.cell?_alloc_new]
  have hbx : Below w.heap.size w (w.alloc (.cells #[.int .i64 V, .int .i64 W] 24)) := (Below.refl _ w).alloc (Nat.le_refl _) _
  have s0 := (hbx.cell (p := ⟨b, o, none⟩) (by exact hb)).trans hr0
  have s1 := (hbx.cell (p := ⟨b, o + 1, none⟩) (by exact hb)).trans hr1
  have HB0 : Hid (∀ y, y < k → (w.alloc (.cells #[.int .i64 V, .int .i64 W] 24)).cell? ⟨b0, o0 + y, none⟩ = some (.int .i64 (ent M 0 y))) := fun y hy => (hbx.cell (p := ⟨b0, o0 + y, none⟩) (by exact hb0)).trans (HC0.out y hy)
  have HB1 : Hid (∀ y, y < k → (w.alloc (.cells #[.int .i64 V, .int .i64 W] 24)).cell? ⟨b1, o1 + y, none⟩ = some (.int .i64 (ent M 1 y))) := fun y hy => (hbx.cell (p := ⟨b1, o1 + y, none⟩) (by exact hb1)).trans (HC1.out y hy)
  have HEB : Hid (∀ y, -1000 ≤ ent M 0 y ∧ ent M 0 y ≤ 1000 ∧ -1000 ≤ ent M 1 y ∧ ent M 1 y ≤ 1000) := fun y => ⟨(p.ent 0 y).1, (p.ent 0 y).2, (p.ent 1 y).1, (p.ent 1 y).2⟩
  have HBX := Lib.hid hbx
  clear hsq hr hs p hc0 hc1 hr0 hr1 HC0 HC1 hbx
  go_enter Try.func13, Try.ntmps13
  go_wp2_with fail
  generalize w.alloc (.cells #[.int .i64 V, .int .i64 W] 24) = w1 at *
  obtain ⟨g, hg⟩ : ∃ g, w.heap.size = g := ⟨_, rfl⟩
  rw [hg] at x1 x2
  rw [show Value.pointer (some ⟨w.heap.size, 0, none⟩) = Value.pointer (some ⟨g, 0, none⟩) by rw [hg]]
  clear hg
  go_loopw [14] (fun yv wr => ∃ y d : Nat, y ≤ k ∧ yv = .int .i64 y ∧ Hid (wr = w1.drewN d)) (fun yv _ => k - (intOf yv).toNat)
  case atStart => exact ⟨0, 0, Nat.zero_le _, rfl, (show Hid _ from by show _ = _; rfl)⟩
  case round =>
    obtain ⟨y, d, hy, rfl, HWR⟩ := hrel
    by_cases hyk : y < k
    · obtain ⟨A, B, C, D, e1, e2, e3, e4, e5, g1, g2, g3, g4, g5, g6, g7, g8⟩ := HP.out y hyk
      have t0 : wr.cell? ⟨b, o, none⟩ = some (.slice (some ⟨b0, o0, none⟩) k c0) := by rw [HWR.out]; exact s0
      have t1 : wr.cell? ⟨b, o + 1, none⟩ = some (.slice (some ⟨b1, o1, none⟩) k c1) := by rw [HWR.out]; exact s1
      have t2 : wr.cell? ⟨b0, o0 + y, none⟩ = some (.int .i64 (ent M 0 y)) := by rw [HWR.out]; exact HB0.out y hyk
      have t3 : wr.cell? ⟨b1, o1 + y, none⟩ = some (.int .i64 (ent M 1 y)) := by rw [HWR.out]; exact HB1.out y hyk
      have t4 : wr.cell? ⟨g, 0, none⟩ = some (.int .i64 V) := by rw [HWR.out]; exact x1
      have t5 : wr.cell? ⟨g, 1, none⟩ = some (.int .i64 W) := by rw [HWR.out]; exact x2
      obtain ⟨m1, m2, m3, m4⟩ := HEB.out y
      have d1 : decide (C < D) = false := decide_eq_false (by omega)
      generalize ent M 0 y = u0 at *
      generalize ent M 1 y = u1 at *
      go_wp2_with fail
      go_quiet (fail)
      go_wp2
      go_roundw
      case rel => exact ⟨y + 1, d + nq, by omega, by go_num, (show Hid _ from by show _ = _; rw [HWR.out, World.drewN_drewN])⟩
      case measure => simp [intOf]; omega
    · obtain rfl : y = k := by omega
      have hbe : Below w.heap.size w wr := by rw [HWR.out]; exact below_drewN HBX.out d
      go_wp2
      go_ret
      exact ⟨rfl, hbe⟩
end Go.Proofs.Ytilgoinbajmamaa

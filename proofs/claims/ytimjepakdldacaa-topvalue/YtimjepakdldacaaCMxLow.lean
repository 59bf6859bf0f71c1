/-
  mixed.lowest: what it returns; nothing that was there is written.
-/
import Derived.Test.YtimjepakdldacaaCLow
namespace Go.Proofs.Ytimjepakdldacaa
open Go.RowKit Fm
set_option linter.unusedVariables false

theorem euclid_end {p : Int} {q a : Nat} (hq : 1 ≤ q) (h : Nat.gcd a 0 = Nat.gcd p.natAbs q) : ∃ P Q : Int, p = P * a ∧ (q : Int) = Q * a ∧ Int.gcd P Q = 1 ∧ 1 ≤ a ∧ a ≤ q ∧ 1 ≤ Q ∧ p.tdiv a = P ∧ (q : Int).tdiv a = Q ∧ (q : Int) / a = Q := by
  rw [Nat.gcd_zero_right] at h
  have hg : Int.gcd p q = a := by rw [h]; rfl
  have h1 : (a : Int) ∣ p := by rw [← hg]; exact Int.gcd_dvd_left p q
  have h2 : (a : Int) ∣ (q : Int) := by rw [← hg]; exact Int.gcd_dvd_right p q
  have ha : 1 ≤ a := by
    rw [h]; exact Nat.gcd_pos_of_pos_right _ (by omega)
  have ha2 : a ≤ q := Nat.le_of_dvd (by omega) (Int.natCast_dvd_natCast.1 h2)
  obtain ⟨P, e1⟩ := h1
  obtain ⟨Q, e2⟩ := h2
  have hQ : 1 ≤ Q := by
    rcases Int.lt_trichotomy Q 0 with e | e | e
    · have := Int.mul_neg_of_pos_of_neg (show (0 : Int) < a by omega) e; omega
    · subst e; simp at e2; omega
    · omega
  refine ⟨P, Q, by rw [e1, Int.mul_comm], by rw [e2, Int.mul_comm], ?_, ha, ha2, hQ, ?_, ?_, ?_⟩
  · have h3 : Int.gcd (a * P) (a * Q) = a * Int.gcd P Q := by rw [Int.gcd_mul_left]; simp
    rw [← e1, ← e2, hg] at h3
    have : a * 1 = a * Int.gcd P Q := by omega
    exact (Nat.eq_of_mul_eq_mul_left (by omega) this).symm
  · rw [e1]; exact Int.mul_tdiv_cancel_left _ (by omega)
  · rw [e2]; exact Int.mul_tdiv_cancel_left _ (by omega)
  · rw [e2]; exact Int.mul_ediv_cancel_left _ (by omega)
theorem euclid_step {a b : Nat} : Nat.gcd b (a % b) = Nat.gcd a b := by
  rw [Nat.gcd_comm a b, Nat.gcd_rec b a, Nat.gcd_comm]

set_option maxHeartbeats 2000000 in
set_option maxRecDepth 100000 in
theorem mlow_any (p q : Int) (hq1 : 1 ≤ q) (hq2 : q ≤ 4000) (hp1 : -4000000 ≤ p) (hp2 : p ≤ 4000000) (w : World) :
    Calls Try.prog 42 #[.int .i64 p, .int .i64 q] w (LowOut p q w) := by
  obtain ⟨q0, hq0⟩ : ∃ q0 : Nat, (q0 : Int) = q := ⟨q.toNat, by omega⟩
  have HQ0 := Lib.hid hq0
  have hq04 : q0 ≤ 4000 := by omega
  clear hq0
  obtain ⟨A0, hA⟩ : ∃ A0 : Nat, p.natAbs = A0 := ⟨_, rfl⟩
  have mx : max p (-p) = (A0 : Int) := by omega
  have mi : (if p < -p then -p else p) = (A0 : Int) := by split <;> omega
  have hA2 : A0 ≤ 4000000 := by omega
  have HA := Lib.hid hA
  clear hA
  go_enter Try.func42, Try.ntmps42
  go_wp2_with fail
  go_loopw [5, 6] (fun av bv wr => ∃ a b m : Nat, av = .int .i64 a ∧ bv = .int .i64 b ∧ a ≤ 4000000 ∧ b ≤ 4000 ∧ Hid (Nat.gcd a b = Nat.gcd A0 q0) ∧ Hid (wr = (w.alloc (.cells #[.int .i64 0, .int .i64 0] 45)).drewN m)) (fun _ bv _ => (intOf bv).toNat)
  case atStart => exact ⟨A0, q0, 0, rfl, by rw [HQ0.out], hA2, hq04, rfl, (show Hid _ from by show _ = _; rfl)⟩
  case round =>
    obtain ⟨a, b, m, rfl, rfl, ha, hb, HG, HWR⟩ := hrel
    clear mx mi
    by_cases hb0 : b = 0
    · subst hb0
      obtain ⟨P, Q, e1, e2, e3, ha1, haq, hQ, t1, t2, t3⟩ := euclid_end (p := p) (q := q0) (by have := HQ0.out; omega) (by rw [HA.out]; exact HG.out)
      rw [HQ0.out] at e2 t2 t3
      have HE := Lib.hid (show p = P * a ∧ q = Q * a ∧ Int.gcd P Q = 1 from ⟨e1, e2, e3⟩)
      have hb : Below w.heap.size w ((w.alloc (.cells #[.int .i64 0, .int .i64 0] 45)).drewN (m + 1)) := below_drewN ((Below.refl _ w).alloc (Nat.le_refl _) _) (m + 1)
      have hQ2 : Q ≤ 4000 := by
        have : Q * 1 ≤ Q * a := Int.mul_le_mul_of_nonneg_left (by omega) (by omega)
        omega
      obtain ⟨hP1, hP2⟩ : -4000000 ≤ P ∧ P ≤ 4000000 := by
        rcases Int.lt_or_le P 0 with hp | hp
        · have : P * a ≤ P * 1 := Int.mul_le_mul_of_nonpos_left (by omega) (by omega)
          omega
        · have : P * 1 ≤ P * a := Int.mul_le_mul_of_nonneg_left (by omega) hp
          omega
      obtain rfl := HWR.out
      have ha0 : ((a : Int) == 0) = false := beq_eq_false_iff_ne.2 (by omega)
      have ha00 : ¬ a = 0 := by omega
      clear e1 e2 e3 HWR HG
      go_wp2
      go_region
      all_goals
        go_wp2
        (try simp only [Exit.inBlock, Exit.then])
        refine bodyPost_ret (v := .agg #[.int .i64 P, .int .i64 Q]) (by simp [results, Try.results42, go_sem]) rfl ?_
        obtain ⟨x1, x2, x3⟩ := HE.out
        exact ⟨P, Q, a, by omega, x1, x2, x3, rfl, ((hb.setCell (p := ⟨w.heap.size, 0, none⟩) (Nat.le_refl _) _).setCell (p := ⟨w.heap.size, 1, none⟩) (Nat.le_refl _) _)⟩
    · have b1 : ((b : Int) != 0) = true := by simpa using hb0
      have tm : (a : Int).tmod b = ((a % b : Nat) : Int) := by rw [Int.ofNat_tmod]
      have te : (a : Int) % b = ((a % b : Nat) : Int) := by omega
      have hr : a % b < b := Nat.mod_lt _ (by omega)
      have HN : Hid (Nat.gcd b (a % b) = Nat.gcd A0 q0) := by show _ = _; rw [euclid_step]; exact HG.out
      generalize a % b = r at *
      clear HG
      go_wp2
      go_region
      all_goals
        go_wp2
        go_roundw
        case rel => exact ⟨b, r, m + 1, rfl, rfl, by omega, by omega, HN, (show Hid _ from by show _ = _; rw [HWR.out]; rfl)⟩
        case measure => simp [intOf]; omega
end Go.Proofs.Ytimjepakdldacaa

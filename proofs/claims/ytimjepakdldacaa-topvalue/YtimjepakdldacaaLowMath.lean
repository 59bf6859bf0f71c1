/-
  A ratio in lowest terms: numbers alone, no Go text.
-/
import Derived.Test.YtimjepakdldacaaMixMath
namespace Fm
set_option linter.unusedVariables false

/-- p by q is P by Q, g times as much, and no number from 2 to less than d divides both P and Q. -/
structure LowAt (p q : Int) (d : Nat) (P Q g : Int) : Prop where
  g1 : 1 ≤ g
  q1 : 1 ≤ Q
  eP : p = P * g
  eQ : q = Q * g
  no : ∀ e : Nat, 2 ≤ e → e < d → ¬ ((e : Int) ∣ P ∧ (e : Int) ∣ Q)
theorem LowAt.start {p q : Int} (hq : 1 ≤ q) : LowAt p q 2 p q 1 := ⟨by omega, hq, by omega, by omega, fun e h1 h2 => by omega⟩
theorem LowAt.next {p q P Q g : Int} {d : Nat} (h : LowAt p q d P Q g) (hn : ¬ ((d : Int) ∣ P ∧ (d : Int) ∣ Q)) : LowAt p q (d + 1) P Q g :=
  ⟨h.g1, h.q1, h.eP, h.eQ, fun e h1 h2 => by
    by_cases q : e = d
    · subst q; exact hn
    · exact h.no e h1 (by omega)⟩
theorem LowAt.cut {p q P Q g : Int} {d : Nat} (h : LowAt p q d P Q g) (hd : 2 ≤ d) {P' Q' : Int} (hP : P = P' * d) (hQ : Q = Q' * d) : LowAt p q d P' Q' (d * g) ∧ Q' < Q := by
  have hg := h.g1
  have hq := h.q1
  have hQ' : 1 ≤ Q' := by
    rcases Int.lt_trichotomy Q' 0 with e | e | e
    · have := Int.mul_neg_of_neg_of_pos e (show (0 : Int) < d by omega); omega
    · subst e; simp at hQ; omega
    · omega
  have hlt : Q' * 2 ≤ Q' * d := Int.mul_le_mul_of_nonneg_left (by omega) (by omega)
  have hdg : (1 : Int) * 1 ≤ d * g := Int.mul_le_mul (by omega) hg (by omega) (by omega)
  refine ⟨⟨by omega, hQ', by rw [h.eP, hP, Int.mul_assoc], by rw [h.eQ, hQ, Int.mul_assoc], fun e h1 h2 ⟨q1, q2⟩ => h.no e h1 h2 ⟨?_, ?_⟩⟩, by omega⟩
  · rw [hP]; exact Int.dvd_trans q1 (Int.dvd_mul_right _ _)
  · rw [hQ]; exact Int.dvd_trans q2 (Int.dvd_mul_right _ _)
theorem LowAt.done {p q P Q g : Int} {d : Nat} (h : LowAt p q d P Q g) (hd : Q < d) : Int.gcd P Q = 1 := by
  have hq := h.q1
  have h1 : Int.gcd P Q ∣ Q.natAbs := Int.gcd_dvd_natAbs_right P Q
  have h2 : Int.gcd P Q ≤ Q.natAbs := Nat.le_of_dvd (by omega) h1
  have h3 : 0 < Int.gcd P Q := Int.gcd_pos_of_ne_zero_right _ (by omega)
  by_cases e : Int.gcd P Q = 1
  · exact e
  · exact absurd ⟨Int.gcd_dvd_left P Q, Int.gcd_dvd_right P Q⟩ (h.no (Int.gcd P Q) (by omega) (by omega))
theorem LowAt.bdP {p q P Q g : Int} {d : Nat} (h : LowAt p q d P Q g) {B : Int} (hB : -B ≤ p ∧ p ≤ B) : -B ≤ P ∧ P ≤ B := by
  have hg := h.g1
  have e := h.eP
  rcases Int.lt_or_le P 0 with hp | hp
  · have : P * g ≤ P * 1 := Int.mul_le_mul_of_nonpos_left (by omega) hg
    omega
  · have : P * 1 ≤ P * g := Int.mul_le_mul_of_nonneg_left hg hp
    omega
theorem LowAt.bdQ {p q P Q g : Int} {d : Nat} (h : LowAt p q d P Q g) : Q ≤ q := by
  have hg := h.g1
  have hq := h.q1
  have e := h.eQ
  have : Q * 1 ≤ Q * g := Int.mul_le_mul_of_nonneg_left hg (by omega)
  omega
theorem dvd_facts {P : Int} {d : Nat} (hd : 2 ≤ d) (h : (d : Int) ∣ P) : ∃ P' : Int, P = P' * d ∧ P.tmod d = 0 ∧ P.tdiv d = P' ∧ P % d = 0 ∧ P / d = P' := by
  obtain ⟨c, rfl⟩ := h
  refine ⟨c, Int.mul_comm _ _, Int.mul_tmod_right _ _, Int.mul_tdiv_cancel_left _ (by omega), Int.mul_emod_right _ _, Int.mul_ediv_cancel_left _ (by omega)⟩
theorem not_dvd_facts {P : Int} {d : Nat} (h : ¬ (d : Int) ∣ P) : P.tmod d ≠ 0 ∧ P % d ≠ 0 := ⟨fun e => h (Int.dvd_of_tmod_eq_zero e), fun e => h (Int.dvd_of_emod_eq_zero e)⟩
end Fm

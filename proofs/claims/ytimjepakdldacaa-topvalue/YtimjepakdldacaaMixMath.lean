/-
  Games with two rows, mixed: what the answer is, that there is but one, and what follows of it; the candidates among which it is: integers alone, no Go text.
-/
import Derived.Test.YtimjepakdldacaaPayMath
namespace Fm
set_option linter.unusedVariables false

/-- What the column y gives where the first row is chosen p times of q, q times as much. -/
def mval (M : List (List Int)) (p q : Int) (y : Nat) : Int := ent M 0 y * p + ent M 1 y * (q - p)
/-- The answer: the first way P of Q that is surest, and what it is sure of, V by W; both in lowest terms. -/
structure Sol (M : List (List Int)) (k : Nat) (P Q V W : Int) : Prop where
  p0 : 0 ≤ P
  pq : P ≤ Q
  q1 : 1 ≤ Q
  w1 : 1 ≤ W
  qb : Q ≤ 4000
  wb : W ≤ 4000
  lowX : Int.gcd P Q = 1
  lowV : Int.gcd V W = 1
  sure : ∀ y, y < k → V * Q ≤ W * mval M P Q y
  hit : ∃ y, y < k ∧ V * Q = W * mval M P Q y
  most : ∀ p q : Int, 0 ≤ p → p ≤ q → 1 ≤ q → ∃ y, y < k ∧ W * mval M p q y ≤ V * q
  first : ∀ p q : Int, 0 ≤ p → p ≤ q → 1 ≤ q → (∀ y, y < k → V * q ≤ W * mval M p q y) → P * q ≤ p * Q

theorem mul_cancelL {a b c : Int} (hc : 0 < c) (h : c * a ≤ c * b) : a ≤ b := by
  rw [Int.mul_comm c a, Int.mul_comm c b] at h
  exact Int.le_of_mul_le_mul_right h hc
theorem low_eq {a b c d : Int} (hb : 1 ≤ b) (hd : 1 ≤ d) (h1 : Int.gcd a b = 1) (h2 : Int.gcd c d = 1) (h : a * d = c * b) : a = c ∧ b = d := by
  have e1 : b ∣ d := by
    have h3 : b ∣ a * d := by rw [h]; exact Int.dvd_mul_left c b
    have h4 : (b.natAbs) ∣ a.natAbs * d.natAbs := by rw [← Int.natAbs_mul]; exact Int.natAbs_dvd_natAbs.2 h3
    have h5 : Nat.gcd b.natAbs a.natAbs = 1 := by rw [Nat.gcd_comm]; exact h1
    exact Int.natAbs_dvd_natAbs.1 (Nat.Coprime.dvd_of_dvd_mul_left h5 h4)
  have e2 : d ∣ b := by
    have h3 : d ∣ c * b := by rw [← h]; exact Int.dvd_mul_left a d
    have h4 : (d.natAbs) ∣ c.natAbs * b.natAbs := by rw [← Int.natAbs_mul]; exact Int.natAbs_dvd_natAbs.2 h3
    have h5 : Nat.gcd d.natAbs c.natAbs = 1 := by rw [Nat.gcd_comm]; exact h2
    exact Int.natAbs_dvd_natAbs.1 (Nat.Coprime.dvd_of_dvd_mul_left h5 h4)
  have e : b = d := Int.dvd_antisymm (by omega) (by omega) e1 e2
  subst e
  exact ⟨Int.eq_of_mul_eq_mul_right (by omega) h, rfl⟩
section
variable {M : List (List Int)} {k : Nat} {P Q V W P' Q' V' W' : Int}
theorem sol_val_le (s : Sol M k P Q V W) (s' : Sol M k P' Q' V' W') : V * W' ≤ V' * W := by
  obtain ⟨y, hy, h⟩ := s'.most P Q s.p0 s.pq s.q1
  have h2 := s.sure y hy
  have q1 := s.q1
  have a1 : V * Q * W' ≤ W * mval M P Q y * W' := Int.mul_le_mul_of_nonneg_right h2 (by have := s'.w1; omega)
  have a2 : W' * mval M P Q y * W ≤ V' * Q * W := Int.mul_le_mul_of_nonneg_right h (by have := s.w1; omega)
  refine mul_cancelL (c := Q) (by omega) ?_
  grind
theorem sol_one (s : Sol M k P Q V W) (s' : Sol M k P' Q' V' W') : P = P' ∧ Q = Q' ∧ V = V' ∧ W = W' := by
  have e1 : V * W' = V' * W := Int.le_antisymm (sol_val_le s s') (sol_val_le s' s)
  obtain ⟨rfl, rfl⟩ := low_eq s.w1 s'.w1 s.lowV s'.lowV e1
  have h1 := s'.first P Q s.p0 s.pq s.q1 s.sure
  have h2 := s.first P' Q' s'.p0 s'.pq s'.q1 s'.sure
  have e2 : P * Q' = P' * Q := Int.le_antisymm h2 h1
  obtain ⟨rfl, rfl⟩ := low_eq s.q1 s'.q1 s.lowX s'.lowX e2
  exact ⟨rfl, rfl, rfl, rfl⟩
/-- Between what the one is sure of and what the other one can hold him to. -/
theorem sol_lo (s : Sol M k P Q V W) (p : Pay 2 k M) : loB M * W ≤ V := by
  obtain ⟨x, hx, e⟩ := (lo_at p).1
  have hw := s.w1
  have h2 : x = 0 ∨ x = 1 := by omega
  rcases h2 with rfl | rfl
  · obtain ⟨y, hy, h⟩ := s.most 1 1 (by omega) (by omega) (by omega)
    have h3 := rmin_le p hx hy
    have h4 : W * loB M ≤ W * ent M 0 y := Int.mul_le_mul_of_nonneg_left (by omega) (by omega)
    unfold mval at h
    grind
  · obtain ⟨y, hy, h⟩ := s.most 0 1 (by omega) (by omega) (by omega)
    have h3 := rmin_le p hx hy
    have h4 : W * loB M ≤ W * ent M 1 y := Int.mul_le_mul_of_nonneg_left (by omega) (by omega)
    unfold mval at h
    grind
theorem sol_hi (s : Sol M k P Q V W) (p : Pay 2 k M) : V ≤ hiB k M * W := by
  obtain ⟨y, hy, e⟩ := (hi_at p).1
  have h := s.sure y hy
  have hw := s.w1
  have h0 := cmax_ge p y (x := 0) (by omega)
  have h1 := cmax_ge p y (x := 1) (by omega)
  rw [e] at h0 h1
  have a0 : ent M 0 y * P ≤ hiB k M * P := Int.mul_le_mul_of_nonneg_right h0 s.p0
  have a1 : ent M 1 y * (Q - P) ≤ hiB k M * (Q - P) := Int.mul_le_mul_of_nonneg_right h1 (by have := s.pq; omega)
  have a2 : mval M P Q y ≤ hiB k M * Q := by unfold mval; grind
  have a3 : W * mval M P Q y ≤ W * (hiB k M * Q) := Int.mul_le_mul_of_nonneg_left a2 (by omega)
  refine mul_cancelL (c := Q) (by have := s.q1; omega) ?_
  grind
/-- Of some columns alone it is no less. -/
theorem sol_less {N : List (List Int)} {k' : Nat} (s : Sol M k P Q V W) (s' : Sol N k' P' Q' V' W') (h : ∀ y, y < k' → ∃ z, z < k ∧ ent N 0 y = ent M 0 z ∧ ent N 1 y = ent M 1 z) : V * W' ≤ V' * W := by
  obtain ⟨y, hy, h1⟩ := s'.most P Q s.p0 s.pq s.q1
  obtain ⟨z, hz, e0, e1⟩ := h y hy
  have h2 := s.sure z hz
  have e : mval N P Q y = mval M P Q z := by unfold mval; rw [e0, e1]
  rw [e] at h1
  have a1 : V * Q * W' ≤ W * mval M P Q z * W' := Int.mul_le_mul_of_nonneg_right h2 (by have := s'.w1; omega)
  have a2 : W' * mval M P Q z * W ≤ V' * Q * W := Int.mul_le_mul_of_nonneg_right h1 (by have := s.w1; omega)
  refine mul_cancelL (c := Q) (by have := s.q1; omega) ?_
  grind
/-- All of it more by c. -/
theorem sol_more {N : List (List Int)} (c : Int) (s : Sol M k P Q V W) (h : ∀ y, y < k → ent N 0 y = ent M 0 y + c ∧ ent N 1 y = ent M 1 y + c) : Sol N k P Q (V + c * W) W := by
  have e : ∀ p q y, y < k → mval N p q y = mval M p q y + c * q := fun p q y hy => by
    obtain ⟨e0, e1⟩ := h y hy
    unfold mval
    rw [e0, e1]
    grind
  refine ⟨s.p0, s.pq, s.q1, s.w1, s.qb, s.wb, s.lowX, by rw [Int.gcd_add_mul_right_left]; exact s.lowV, fun y hy => ?_, ?_, fun p q h0 h1 h2 => ?_, fun p q h0 h1 h2 h3 => ?_⟩
  · have := s.sure y hy
    rw [e P Q y hy]
    grind
  · obtain ⟨y, hy, h2⟩ := s.hit
    exact ⟨y, hy, by rw [e P Q y hy]; grind⟩
  · obtain ⟨y, hy, h3⟩ := s.most p q h0 h1 h2
    exact ⟨y, hy, by rw [e p q y hy]; grind⟩
  · refine s.first p q h0 h1 h2 (fun y hy => ?_)
    have := h3 y hy
    rw [e p q y hy] at this
    grind
def slope (M : List (List Int)) (y : Nat) : Int := ent M 0 y - ent M 1 y
theorem mval_slope (M : List (List Int)) (p q : Int) (y : Nat) : mval M p q y = ent M 1 y * q + slope M y * p := by unfold mval slope; grind
theorem slope_bd (p : Pay 2 k M) (y : Nat) : -2000 ≤ slope M y ∧ slope M y ≤ 2000 := by
  have h0 := p.ent 0 y
  have h1 := p.ent 1 y
  unfold slope
  omega
/-- Where more of the first row can be chosen, some column that is hit does not gain by it. -/
theorem sol_right (s : Sol M k P Q V W) (p : Pay 2 k M) (h : P < Q) : ∃ y, y < k ∧ V * Q = W * mval M P Q y ∧ slope M y ≤ 0 := by
  have hw := s.w1
  have hwb := s.wb
  have hq := s.q1
  obtain ⟨T, hT⟩ : ∃ T : Int, T = 2000 * W + 1 := ⟨_, rfl⟩
  have hT1 : 1 ≤ T := by omega
  have hTP : T * (P + 1) ≤ T * Q := Int.mul_le_mul_of_nonneg_left (by omega) (by omega)
  have hTP0 : 0 ≤ T * P := Int.mul_nonneg (by omega) s.p0
  have hTQ : T * 1 ≤ T * Q := Int.mul_le_mul_of_nonneg_left hq (by omega)
  obtain ⟨y, hy, h1⟩ := s.most (T * P + 1) (T * Q) (by omega) (by grind) (by omega)
  have e : mval M (T * P + 1) (T * Q) y = T * mval M P Q y + slope M y := by rw [mval_slope, mval_slope]; grind
  rw [e] at h1
  have hs := s.sure y hy
  have hb := slope_bd p y
  by_cases he : V * Q = W * mval M P Q y
  · refine ⟨y, hy, he, ?_⟩
    have he2 : T * (V * Q) = T * (W * mval M P Q y) := by rw [he]
    have h2 : W * slope M y ≤ 0 := by grind
    have h3 : W * slope M y ≤ W * 0 := by omega
    exact mul_cancelL (by omega) h3
  · exfalso
    have h2 : V * Q + 1 ≤ W * mval M P Q y := by omega
    have h3 : T * (V * Q + 1) ≤ T * (W * mval M P Q y) := Int.mul_le_mul_of_nonneg_left h2 (by omega)
    have h4 : W * (-2000) ≤ W * slope M y := Int.mul_le_mul_of_nonneg_left hb.1 (by omega)
    grind
theorem sol_left (s : Sol M k P Q V W) (p : Pay 2 k M) (h : 0 < P) : ∃ y, y < k ∧ V * Q = W * mval M P Q y ∧ 0 ≤ slope M y := by
  have hw := s.w1
  have hwb := s.wb
  have hq := s.q1
  have hpq := s.pq
  obtain ⟨T, hT⟩ : ∃ T : Int, T = 2000 * W + 1 := ⟨_, rfl⟩
  have hT1 : 1 ≤ T := by omega
  have hTP : T * P ≤ T * Q := Int.mul_le_mul_of_nonneg_left hpq (by omega)
  have hTP0 : T * 1 ≤ T * P := Int.mul_le_mul_of_nonneg_left (by omega) (by omega)
  obtain ⟨y, hy, h1⟩ := s.most (T * P - 1) (T * Q) (by omega) (by omega) (by omega)
  have e : mval M (T * P - 1) (T * Q) y = T * mval M P Q y - slope M y := by rw [mval_slope, mval_slope]; grind
  rw [e] at h1
  have hs := s.sure y hy
  have hb := slope_bd p y
  by_cases he : V * Q = W * mval M P Q y
  · refine ⟨y, hy, he, ?_⟩
    have he2 : T * (V * Q) = T * (W * mval M P Q y) := by rw [he]
    have h2 : W * 0 ≤ W * slope M y := by grind
    exact mul_cancelL (by omega) h2
  · exfalso
    have h2 : V * Q + 1 ≤ W * mval M P Q y := by omega
    have h3 : T * (V * Q + 1) ≤ T * (W * mval M P Q y) := Int.mul_le_mul_of_nonneg_left h2 (by omega)
    have h4 : W * slope M y ≤ W * 2000 := Int.mul_le_mul_of_nonneg_left hb.2 (by omega)
    grind
/-- One column alone holds the first one to it. -/
def holdsAt (M : List (List Int)) (V W : Int) (y : Nat) : Prop := W * ent M 0 y ≤ V ∧ W * ent M 1 y ≤ V
/-- Two mixed: s of t the one. -/
def holdsMix (M : List (List Int)) (V W : Int) (i j : Nat) (s t : Int) : Prop := W * (ent M 0 i * s + ent M 0 j * (t - s)) ≤ V * t ∧ W * (ent M 1 i * s + ent M 1 j * (t - s)) ≤ V * t
theorem sol_other (s : Sol M k P Q V W) (p : Pay 2 k M) : (∃ y, y < k ∧ holdsAt M V W y) ∨ ∃ i j, i < k ∧ j < k ∧ slope M j < 0 ∧ 0 < slope M i ∧ holdsMix M V W i j (-slope M j) (slope M i - slope M j) := by
  have hw := s.w1
  have hq := s.q1
  by_cases c0 : P = 0
  · left
    obtain ⟨y, hy, h1, h2⟩ := sol_right s p (by omega)
    subst c0
    refine ⟨y, hy, ?_⟩
    have h3 : V = W * ent M 1 y := Int.eq_of_mul_eq_mul_right (a := Q) (by omega) (by unfold mval at h1; grind)
    have h4 : W * ent M 0 y ≤ W * ent M 1 y := Int.mul_le_mul_of_nonneg_left (by unfold slope at h2; omega) (by omega)
    exact ⟨by omega, by omega⟩
  · have hp0 := s.p0
    obtain ⟨i, hi, a1, a2⟩ := sol_left s p (by omega)
    by_cases c1 : P = Q
    · left
      subst c1
      refine ⟨i, hi, ?_⟩
      have h3 : V = W * ent M 0 i := Int.eq_of_mul_eq_mul_right (a := P) (by omega) (by unfold mval at a1; grind)
      have h4 : W * ent M 1 i ≤ W * ent M 0 i := Int.mul_le_mul_of_nonneg_left (by unfold slope at a2; omega) (by omega)
      exact ⟨by omega, by omega⟩
    · have hpq := s.pq
      obtain ⟨j, hj, b1, b2⟩ := sol_right s p (by omega)
      have flat : ∀ y, y < k → V * Q = W * mval M P Q y → slope M y = 0 → holdsAt M V W y := fun y hy h1 h2 => by
        rw [mval_slope, h2] at h1
        have h3 : V = W * ent M 1 y := Int.eq_of_mul_eq_mul_right (a := Q) (by omega) (by grind)
        have h4 : ent M 0 y = ent M 1 y := by unfold slope at h2; omega
        exact ⟨by rw [h4]; omega, by omega⟩
      by_cases d1 : slope M i = 0
      · exact .inl ⟨i, hi, flat i hi a1 d1⟩
      · by_cases d2 : slope M j = 0
        · exact .inl ⟨j, hj, flat j hj b1 d2⟩
        · right
          refine ⟨i, j, hi, hj, by omega, by omega, ?_⟩
          rw [mval_slope] at a1 b1
          have e0 : ent M 0 i = ent M 1 i + slope M i := by unfold slope; omega
          have e1 : ent M 0 j = ent M 1 j + slope M j := by unfold slope; omega
          unfold holdsMix
          rw [e0, e1]
          generalize ent M 1 i = bi at *
          generalize ent M 1 j = bj at *
          generalize slope M i = si at *
          generalize slope M j = sj at *
          have key : V * (si - sj) = W * (bi * (-sj) + bj * si) := by
            refine Int.eq_of_mul_eq_mul_right (a := Q) (by omega) ?_
            have x1 : V * Q * (-sj) = W * (bi * Q + si * P) * (-sj) := by rw [a1]
            have x2 : V * Q * si = W * (bj * Q + sj * P) * si := by rw [b1]
            grind
          constructor
          · grind
          · grind
end
end Fm

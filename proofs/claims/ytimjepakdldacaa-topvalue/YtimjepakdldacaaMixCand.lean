/-
  The best of the candidates is the answer: integers alone, no Go text.
-/
import Derived.Test.YtimjepakdldacaaMixMath
namespace Fm
set_option linter.unusedVariables false

/-- The least that a column gives. -/
def lvOf (M : List (List Int)) (k : Nat) (p q : Int) : Int := leastI ((List.range k).map fun y => mval M p q y)
section
variable {M : List (List Int)} {k : Nat}
theorem lv_le (p q : Int) {y : Nat} (hy : y < k) : lvOf M k p q ≤ mval M p q y := least_le (List.mem_map.2 ⟨y, List.mem_range.2 hy, rfl⟩)
theorem lv_at (hk : 1 ≤ k) (p q : Int) : ∃ y, y < k ∧ mval M p q y = lvOf M k p q := by
  have h := least_mem (l := (List.range k).map fun y => mval M p q y) (by simp; omega)
  obtain ⟨y, hy, e⟩ := List.mem_map.1 h
  exact ⟨y, List.mem_range.1 hy, e⟩
/-- Candidates: both ends, and wherever two columns give the same. -/
structure Cand (M : List (List Int)) (k : Nat) (C : List (Int × Int)) : Prop where
  c0 : (0, 1) ∈ C
  c1 : (1, 1) ∈ C
  rng : ∀ c ∈ C, 0 ≤ c.1 ∧ c.1 ≤ c.2 ∧ 1 ≤ c.2 ∧ c.2 ≤ 4000
  cross : ∀ i j, i < k → j < k → 0 < slope M i - slope M j → 0 ≤ ent M 1 j - ent M 1 i → ent M 1 j - ent M 1 i ≤ slope M i - slope M j → (ent M 1 j - ent M 1 i, slope M i - slope M j) ∈ C
/-- The last candidate that is not behind p by q. -/
theorem last_cand (p q : Int) (hq : 1 ≤ q) : ∀ C : List (Int × Int), (∀ c ∈ C, 1 ≤ c.2) → (∃ c ∈ C, c.1 * q ≤ p * c.2) → ∃ c ∈ C, c.1 * q ≤ p * c.2 ∧ ∀ d ∈ C, d.1 * q ≤ p * d.2 → d.1 * c.2 ≤ c.1 * d.2 := by
  intro C
  induction C with
  | nil => rintro _ ⟨c, h, _⟩; cases h
  | cons a C ih =>
    intro hp he
    by_cases hC : ∃ c ∈ C, c.1 * q ≤ p * c.2
    · obtain ⟨c, hc, h1, h2⟩ := ih (fun c hc => hp c (List.mem_cons_of_mem _ hc)) hC
      by_cases ha : a.1 * q ≤ p * a.2 ∧ c.1 * a.2 ≤ a.1 * c.2
      · refine ⟨a, List.mem_cons_self, ha.1, fun d hd hd2 => ?_⟩
        rcases List.mem_cons.1 hd with rfl | hd
        · exact Int.le_refl _
        · have h3 := h2 d hd hd2
          have pa := hp a (List.mem_cons_self)
          have pc := hp c (List.mem_cons_of_mem _ hc)
          have pd := hp d (List.mem_cons_of_mem _ hd)
          refine mul_cancelL (c := c.2) (by omega) ?_
          have x1 : d.1 * c.2 * a.2 ≤ c.1 * d.2 * a.2 := Int.mul_le_mul_of_nonneg_right h3 (by omega)
          have x2 : c.1 * a.2 * d.2 ≤ a.1 * c.2 * d.2 := Int.mul_le_mul_of_nonneg_right ha.2 (by omega)
          grind
      · refine ⟨c, List.mem_cons_of_mem _ hc, h1, fun d hd hd2 => ?_⟩
        rcases List.mem_cons.1 hd with rfl | hd
        · by_cases q2 : c.1 * d.2 ≤ d.1 * c.2
          · exact absurd ⟨hd2, q2⟩ ha
          · omega
        · exact h2 d hd hd2
    · obtain ⟨c, hc, h1⟩ := he
      rcases List.mem_cons.1 hc with rfl | hc
      · refine ⟨c, List.mem_cons_self, h1, fun d hd hd2 => ?_⟩
        rcases List.mem_cons.1 hd with rfl | hd
        · exact Int.le_refl _
        · exact absurd ⟨d, hd, hd2⟩ hC
      · exact absurd ⟨c, hc, h1⟩ hC
/-- The first candidate that is not ahead of p by q. -/
theorem first_cand (p q : Int) (hq : 1 ≤ q) (C : List (Int × Int)) (hp : ∀ c ∈ C, 1 ≤ c.2) (he : ∃ c ∈ C, p * c.2 ≤ c.1 * q) : ∃ c ∈ C, p * c.2 ≤ c.1 * q ∧ ∀ d ∈ C, p * d.2 ≤ d.1 * q → c.1 * d.2 ≤ d.1 * c.2 := by
  have h := last_cand (-p) q hq (C.map fun c => (-c.1, c.2)) (fun c hc => by obtain ⟨d, hd, rfl⟩ := List.mem_map.1 hc; exact hp d hd) (by
    obtain ⟨c, hc, h⟩ := he
    exact ⟨_, List.mem_map.2 ⟨c, hc, rfl⟩, by dsimp only; grind⟩)
  obtain ⟨c', hcm, h1, h2⟩ := h
  obtain ⟨c, hc, rfl⟩ := List.mem_map.1 hcm
  dsimp only at h1 h2
  refine ⟨c, hc, by grind, fun d hd hd2 => ?_⟩
  have := h2 (-d.1, d.2) (List.mem_map.2 ⟨d, hd, rfl⟩) (by dsimp only; grind)
  dsimp only at this
  grind
/-- Where a line falls below another one there is a candidate. -/
theorem cross_at {C : List (Int × Int)} (hC : Cand M k C) {i j : Nat} (hi : i < k) (hj : j < k) {u v p q : Int} (hu : 0 ≤ u) (hv : 1 ≤ v) (hq : 1 ≤ q) (hp : p ≤ q) (hle : u * q ≤ p * v)
    (h1 : mval M u v j < mval M u v i) (h2 : mval M p q i ≤ mval M p q j) : ∃ c ∈ C, u * c.2 < c.1 * v ∧ c.1 * q ≤ p * c.2 := by
  rw [mval_slope, mval_slope] at h1 h2
  obtain ⟨D, hD⟩ : ∃ D, ent M 1 j - ent M 1 i = D := ⟨_, rfl⟩
  obtain ⟨S, hS⟩ : ∃ S, slope M j - slope M i = S := ⟨_, rfl⟩
  have h3 : D * v + S * u < 0 := by rw [← hD, ← hS]; grind
  have h4 : 0 ≤ D * q + S * p := by rw [← hD, ← hS]; grind
  have a1 : (D * v + S * u) * q < 0 := Int.mul_neg_of_neg_of_pos h3 (by omega)
  have a2 : 0 ≤ (D * q + S * p) * v := Int.mul_nonneg h4 (by omega)
  have a3 : 0 < S * (p * v - u * q) := by grind
  have hSp : 0 < S := by
    rcases Int.lt_trichotomy 0 S with e | e | e
    · exact e
    · subst e; simp at a3
    · have := Int.mul_nonpos_of_nonpos_of_nonneg (show S ≤ 0 by omega) (show 0 ≤ p * v - u * q by omega)
      omega
  have hSu : 0 ≤ S * u := Int.mul_nonneg (by omega) hu
  have hDn : D < 0 := by
    rcases Int.lt_trichotomy D 0 with e | e | e
    · exact e
    · subst e; omega
    · have := Int.mul_pos e (show 0 < v by omega)
      omega
  have hDS : -D ≤ S := by
    refine mul_cancelL (c := q) (by omega) ?_
    have : S * p ≤ S * q := Int.mul_le_mul_of_nonneg_left hp (by omega)
    grind
  refine ⟨(ent M 1 i - ent M 1 j, slope M j - slope M i), hC.cross j i hj hi (by omega) (by omega) (by omega), ?_, ?_⟩
  · dsimp only
    rw [hS, show ent M 1 i - ent M 1 j = -D by omega]
    grind
  · dsimp only
    rw [hS, show ent M 1 i - ent M 1 j = -D by omega]
    grind
theorem cross_rt {C : List (Int × Int)} (hC : Cand M k C) {i j : Nat} (hi : i < k) (hj : j < k) {u v p q : Int} (hu : u ≤ v) (hv : 1 ≤ v) (hq : 1 ≤ q) (hp : 0 ≤ p) (hle : p * v ≤ u * q)
    (h1 : mval M u v j < mval M u v i) (h2 : mval M p q i ≤ mval M p q j) : ∃ c ∈ C, c.1 * v < u * c.2 ∧ p * c.2 ≤ c.1 * q := by
  rw [mval_slope, mval_slope] at h1 h2
  obtain ⟨D, hD⟩ : ∃ D, ent M 1 j - ent M 1 i = D := ⟨_, rfl⟩
  obtain ⟨S, hS⟩ : ∃ S, slope M i - slope M j = S := ⟨_, rfl⟩
  have h3 : D * v - S * u < 0 := by rw [← hD, ← hS]; grind
  have h4 : 0 ≤ D * q - S * p := by rw [← hD, ← hS]; grind
  have a1 : (D * v - S * u) * q < 0 := Int.mul_neg_of_neg_of_pos h3 (by omega)
  have a2 : 0 ≤ (D * q - S * p) * v := Int.mul_nonneg h4 (by omega)
  have a3 : 0 < S * (u * q - p * v) := by grind
  have hSp : 0 < S := by
    rcases Int.lt_trichotomy 0 S with e | e | e
    · exact e
    · subst e; simp at a3
    · have := Int.mul_nonpos_of_nonpos_of_nonneg (show S ≤ 0 by omega) (show 0 ≤ u * q - p * v by omega)
      omega
  have hSp2 : 0 ≤ S * p := Int.mul_nonneg (by omega) hp
  have hDn : 0 ≤ D := by
    rcases Int.lt_trichotomy D 0 with e | e | e
    · have := Int.mul_neg_of_neg_of_pos e (show 0 < q by omega)
      omega
    · omega
    · omega
  have hDS : D ≤ S := by
    refine mul_cancelL (c := v) (by omega) ?_
    have : S * u ≤ S * v := Int.mul_le_mul_of_nonneg_left hu (by omega)
    grind
  refine ⟨(ent M 1 j - ent M 1 i, slope M i - slope M j), hC.cross i j hi hj (by omega) (by omega) (by omega), ?_, ?_⟩
  · dsimp only
    rw [hS, hD]
    grind
  · dsimp only
    rw [hS, hD]
    grind
/-- Nothing is surer than all candidates; what is as sure as the surest comes not ahead of them. -/
theorem cand_all {C : List (Int × Int)} (hC : Cand M k C) (hk : 1 ≤ k) {p q : Int} (h0 : 0 ≤ p) (h1 : p ≤ q) (hq : 1 ≤ q) :
    ∃ c ∈ C, (c.1 * q ≤ p * c.2 ∧ lvOf M k p q * c.2 ≤ lvOf M k c.1 c.2 * q) ∨ lvOf M k p q * c.2 < lvOf M k c.1 c.2 * q := by
  obtain ⟨i, hi, hit⟩ := lv_at (M := M) hk p q
  by_cases hs : slope M i ≤ 0
  · obtain ⟨c, hc, c1, c2⟩ := last_cand p q hq C (fun c hc => (hC.rng c hc).2.2.1) ⟨(0, 1), hC.c0, by dsimp only; omega⟩
    obtain ⟨r1, r2, r3, r4⟩ := hC.rng c hc
    refine ⟨c, hc, .inl ⟨c1, ?_⟩⟩
    obtain ⟨j, hj, hjt⟩ := lv_at (M := M) hk c.1 c.2
    have hij : mval M c.1 c.2 i ≤ mval M c.1 c.2 j := by
      by_cases e : mval M c.1 c.2 i ≤ mval M c.1 c.2 j
      · exact e
      · exfalso
        obtain ⟨d, hd, d1, d2⟩ := cross_at hC hi hj r1 r3 hq h1 c1 (by omega) (by rw [hit]; exact lv_le p q hj)
        have := c2 d hd d2
        omega
    have hx : mval M p q i * c.2 ≤ mval M c.1 c.2 i * q := by
      rw [mval_slope, mval_slope]
      have := Int.mul_nonneg (show 0 ≤ -slope M i by omega) (show 0 ≤ p * c.2 - c.1 * q by omega)
      grind
    have hy : mval M c.1 c.2 i * q ≤ mval M c.1 c.2 j * q := Int.mul_le_mul_of_nonneg_right hij (by omega)
    rw [hit] at hx
    rw [hjt] at hy
    omega
  · obtain ⟨c, hc, c1, c2⟩ := first_cand p q hq C (fun c hc => (hC.rng c hc).2.2.1) ⟨(1, 1), hC.c1, by dsimp only; omega⟩
    obtain ⟨r1, r2, r3, r4⟩ := hC.rng c hc
    obtain ⟨j, hj, hjt⟩ := lv_at (M := M) hk c.1 c.2
    have hij : mval M c.1 c.2 i ≤ mval M c.1 c.2 j := by
      by_cases e : mval M c.1 c.2 i ≤ mval M c.1 c.2 j
      · exact e
      · exfalso
        obtain ⟨d, hd, d1, d2⟩ := cross_rt hC hi hj r2 r3 hq h0 c1 (by omega) (by rw [hit]; exact lv_le p q hj)
        have := c2 d hd d2
        omega
    have hy : mval M c.1 c.2 i * q ≤ mval M c.1 c.2 j * q := Int.mul_le_mul_of_nonneg_right hij (by omega)
    rw [hjt] at hy
    have hx : mval M p q i * c.2 + slope M i * (c.1 * q - p * c.2) = mval M c.1 c.2 i * q := by
      rw [mval_slope, mval_slope]
      grind
    rw [hit] at hx
    refine ⟨c, hc, ?_⟩
    by_cases e : c.1 * q ≤ p * c.2
    · left
      have e2 : c.1 * q - p * c.2 = 0 := by omega
      rw [e2, Int.mul_zero] at hx
      exact ⟨e, by omega⟩
    · right
      have := Int.mul_pos (show 0 < slope M i by omega) (show 0 < c.1 * q - p * c.2 by omega)
      omega
/-- The best candidate, and the first of the best. -/
structure BestC (M : List (List Int)) (k : Nat) (C : List (Int × Int)) (P0 Q0 : Int) : Prop where
  mem : (P0, Q0) ∈ C
  best : ∀ c ∈ C, lvOf M k c.1 c.2 * Q0 ≤ lvOf M k P0 Q0 * c.2
  first : ∀ c ∈ C, lvOf M k c.1 c.2 * Q0 = lvOf M k P0 Q0 * c.2 → P0 * c.2 ≤ c.1 * Q0
theorem eq_back {A L0 Lp q Q0 v : Int} (b2 : Lp * v * Q0 ≤ A * q * Q0) (he : Lp * Q0 * v = L0 * q * v) : L0 * v * q ≤ A * Q0 * q := by grind
theorem best_sol {C : List (Int × Int)} (hC : Cand M k C) (hk : 1 ≤ k) {P0 Q0 P Q V W g h : Int} (hb : BestC M k C P0 Q0) (hg : 1 ≤ g) (hh : 1 ≤ h) (e1 : P0 = P * g) (e2 : Q0 = Q * g) (e3 : lvOf M k P0 Q0 = V * h) (e4 : Q0 = W * h) (lx : Int.gcd P Q = 1) (lv : Int.gcd V W = 1) : Sol M k P Q V W := by
  obtain ⟨r1, r2, r3, r4⟩ := hC.rng _ hb.mem
  dsimp only at r1 r2 r3 r4
  have hQ1 : 1 ≤ Q := by
    rcases Int.lt_trichotomy Q 0 with e | e | e
    · have := Int.mul_neg_of_neg_of_pos e (show 0 < g by omega); omega
    · subst e; simp at e2; omega
    · omega
  have hW1 : 1 ≤ W := by
    rcases Int.lt_trichotomy W 0 with e | e | e
    · have := Int.mul_neg_of_neg_of_pos e (show 0 < h by omega); omega
    · subst e; simp at e4; omega
    · omega
  have hP0 : 0 ≤ P := by
    rcases Int.lt_trichotomy P 0 with e | e | e
    · have := Int.mul_neg_of_neg_of_pos e (show 0 < g by omega); omega
    · omega
    · omega
  have hPQ : P ≤ Q := Int.le_of_mul_le_mul_right (a := g) (by omega) (by omega)
  have hQb : Q ≤ 4000 := by
    have : Q * 1 ≤ Q * g := Int.mul_le_mul_of_nonneg_left hg (by omega)
    omega
  have hWb : W ≤ 4000 := by
    have : W * 1 ≤ W * h := Int.mul_le_mul_of_nonneg_left hh (by omega)
    omega
  have hm : ∀ y, mval M P0 Q0 y = mval M P Q y * g := fun y => by rw [e1, e2, mval_slope, mval_slope]; grind
  have key : ∀ p q : Int, 0 ≤ p → p ≤ q → 1 ≤ q → lvOf M k p q * Q0 ≤ lvOf M k P0 Q0 * q ∧ (lvOf M k p q * Q0 = lvOf M k P0 Q0 * q → P0 * q ≤ p * Q0) := fun p q h0 h1 hq => by
    obtain ⟨c, hc, hcase⟩ := cand_all hC hk h0 h1 hq
    obtain ⟨s1, s2, s3, s4⟩ := hC.rng c hc
    have hbc := hb.best c hc
    have b1 : lvOf M k c.1 c.2 * Q0 * q ≤ lvOf M k P0 Q0 * c.2 * q := Int.mul_le_mul_of_nonneg_right hbc (by omega)
    rcases hcase with ⟨f1, f2⟩ | f2
    · have b2 : lvOf M k p q * c.2 * Q0 ≤ lvOf M k c.1 c.2 * q * Q0 := Int.mul_le_mul_of_nonneg_right f2 (by omega)
      refine ⟨mul_cancelL (c := c.2) (by omega) (by grind), fun he => ?_⟩
      have he2 : lvOf M k p q * Q0 * c.2 = lvOf M k P0 Q0 * q * c.2 := by rw [he]
      have f3 : lvOf M k c.1 c.2 * Q0 = lvOf M k P0 Q0 * c.2 := Int.eq_of_mul_eq_mul_right (a := q) (by omega) (Int.le_antisymm b1 (eq_back b2 he2))
      have f4 := hb.first c hc f3
      have b3 : P0 * c.2 * q ≤ c.1 * Q0 * q := Int.mul_le_mul_of_nonneg_right f4 (by omega)
      have b4 : c.1 * q * Q0 ≤ p * c.2 * Q0 := Int.mul_le_mul_of_nonneg_right f1 (by omega)
      exact mul_cancelL (c := c.2) (by omega) (by grind)
    · have b2 : lvOf M k p q * c.2 * Q0 < lvOf M k c.1 c.2 * q * Q0 := Int.mul_lt_mul_of_pos_right f2 (by omega)
      refine ⟨mul_cancelL (c := c.2) (by omega) (by grind), fun he => ?_⟩
      have he2 : lvOf M k p q * Q0 * c.2 = lvOf M k P0 Q0 * q * c.2 := by rw [he]
      exfalso
      grind
  refine ⟨hP0, hPQ, hQ1, hW1, hQb, hWb, lx, lv, fun y hy => ?_, ?_, fun p q h0 h1 hq => ?_, fun p q h0 h1 hq hall => ?_⟩
  · have h1 := lv_le (M := M) P0 Q0 hy
    rw [e3, hm] at h1
    -- V * h ≤ mval * g, with Q * g = W * h
    have a1 : V * h * W ≤ mval M P Q y * g * W := Int.mul_le_mul_of_nonneg_right h1 (by omega)
    refine mul_cancelL (c := g) (by omega) ?_
    have e5 : V * (Q * g) = V * (W * h) := by rw [← e2, ← e4]
    grind
  · obtain ⟨y, hy, h1⟩ := lv_at (M := M) hk P0 Q0
    rw [e3, hm] at h1
    refine ⟨y, hy, Int.eq_of_mul_eq_mul_right (a := g) (by omega) ?_⟩
    have e5 : V * (Q * g) = V * (W * h) := by rw [← e2, ← e4]
    have e6 : mval M P Q y * g * W = V * h * W := by rw [h1]
    grind
  · obtain ⟨y, hy, h2⟩ := lv_at (M := M) hk p q
    have h3 := (key p q h0 h1 hq).1
    rw [← h2, e3] at h3
    refine ⟨y, hy, mul_cancelL (c := h) (by omega) ?_⟩
    have e5 : mval M p q y * Q0 = mval M p q y * (W * h) := by rw [← e4]
    grind
  · obtain ⟨y, hy, h2⟩ := lv_at (M := M) hk p q
    have h3 := key p q h0 h1 hq
    have h4 := hall y hy
    rw [h2] at h4
    have h5 : V * q * h ≤ W * lvOf M k p q * h := Int.mul_le_mul_of_nonneg_right h4 (by omega)
    have e5 : lvOf M k p q * Q0 = lvOf M k p q * (W * h) := by rw [← e4]
    have e6 : lvOf M k P0 Q0 * q = V * h * q := by rw [e3]
    have h6 := h3.2 (Int.le_antisymm h3.1 (by grind))
    rw [e1, e2] at h6
    exact mul_cancelL (c := g) (by omega) (by grind)
end
end Fm

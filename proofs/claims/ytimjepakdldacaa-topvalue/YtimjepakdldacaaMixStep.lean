/-
  One candidate after another: which one is kept, and that in the end it is the best; integers alone, no Go text.
-/
import Derived.Test.YtimjepakdldacaaMixCand
namespace Fm
set_option linter.unusedVariables false

/-- A candidate in lowest terms, with what it is sure of in lowest terms. -/
structure MGood (M : List (List Int)) (k : Nat) (P Q V W : Int) : Prop where
  p0 : 0 ≤ P
  pq : P ≤ Q
  q1 : 1 ≤ Q
  qb : Q ≤ 4000
  low : Int.gcd P Q = 1
  v : ∃ h : Int, 1 ≤ h ∧ lvOf M k P Q = V * h ∧ Q = W * h
  lowV : Int.gcd V W = 1
/-- What p of q is sure of is no more than that of P of Q; if it is as much, it comes not ahead. -/
def Beaten (M : List (List Int)) (k : Nat) (P Q p q : Int) : Prop := lvOf M k p q * Q ≤ lvOf M k P Q * q ∧ (lvOf M k p q * Q = lvOf M k P Q * q → P * q ≤ p * Q)
section
variable {M : List (List Int)} {k : Nat}
theorem Beaten.self (P Q : Int) : Beaten M k P Q P Q := ⟨Int.le_refl _, fun _ => Int.le_refl _⟩
theorem Beaten.trans {P Q p q X Y : Int} (hq : 1 ≤ q) (hQ : 1 ≤ Q) (hY : 1 ≤ Y) (h : Beaten M k P Q p q) (h2 : Beaten M k X Y P Q) : Beaten M k X Y p q := by
  obtain ⟨a1, a2⟩ := h
  obtain ⟨b1, b2⟩ := h2
  unfold Beaten
  generalize lvOf M k p q = l at *
  generalize lvOf M k P Q = L at *
  generalize lvOf M k X Y = K at *
  have c1 : l * Q * Y ≤ L * q * Y := Int.mul_le_mul_of_nonneg_right a1 (by omega)
  have c2 : L * Y * q ≤ K * Q * q := Int.mul_le_mul_of_nonneg_right b1 (by omega)
  refine ⟨mul_cancelL (c := Q) (by omega) (by grind), fun he => ?_⟩
  have he2 : l * Y * Q = K * q * Q := by rw [he]
  have e1 : l * Q = L * q := Int.eq_of_mul_eq_mul_right (a := Y) (by omega) (Int.le_antisymm c1 (by grind))
  have e2 : L * Y = K * Q := Int.eq_of_mul_eq_mul_right (a := q) (by omega) (Int.le_antisymm c2 (by grind))
  have d1 := a2 e1
  have d2 := b2 e2
  have d3 : X * Q * q ≤ P * Y * q := Int.mul_le_mul_of_nonneg_right d2 (by omega)
  have d4 : P * q * Y ≤ p * Q * Y := Int.mul_le_mul_of_nonneg_right d1 (by omega)
  exact mul_cancelL (c := Q) (by omega) (by grind)
theorem MGood.w1 {P Q V W : Int} (g : MGood M k P Q V W) : 1 ≤ W ∧ W ≤ Q := by
  obtain ⟨h, h1, h2, h3⟩ := g.v
  have q1 := g.q1
  have hW : 1 ≤ W := by
    rcases Int.lt_trichotomy W 0 with e | e | e
    · have := Int.mul_neg_of_neg_of_pos e (show 0 < h by omega); omega
    · subst e; simp at h3; omega
    · omega
  have : W * 1 ≤ W * h := Int.mul_le_mul_of_nonneg_left h1 (by omega)
  omega
theorem bd_of_mul {V h L B : Int} (h1 : 1 ≤ h) (e : L = V * h) (b : -B ≤ L ∧ L ≤ B) : -B ≤ V ∧ V ≤ B := by
  rcases Int.lt_or_le V 0 with hp | hp
  · have : V * h ≤ V * 1 := Int.mul_le_mul_of_nonpos_left (by omega) h1
    omega
  · have : V * 1 ≤ V * h := Int.mul_le_mul_of_nonneg_left h1 hp
    omega
/-- Comparing the two values is comparing what both are sure of. -/
theorem good_cmp {P Q V W X Y U Z : Int} (g : MGood M k P Q V W) (g2 : MGood M k X Y U Z) :
    ∃ c : Int, 1 ≤ c ∧ lvOf M k P Q * Y = V * Z * c ∧ lvOf M k X Y * Q = U * W * c := by
  obtain ⟨h, h1, h2, h3⟩ := g.v
  obtain ⟨i, i1, i2, i3⟩ := g2.v
  refine ⟨h * i, ?_, ?_, ?_⟩
  · have : 1 * 1 ≤ h * i := Int.mul_le_mul h1 i1 (by omega) (by omega)
    omega
  · rw [h2]
    have : V * h * Y = V * h * (Z * i) := by rw [← i3]
    grind
  · rw [i2]
    have : U * i * Q = U * i * (W * h) := by rw [← h3]
    grind
/-- The new one is surer. -/
theorem good_more {P Q V W X Y U Z : Int} (g : MGood M k P Q V W) (g2 : MGood M k X Y U Z) (h : V * Z < U * W) : Beaten M k X Y P Q := by
  obtain ⟨c, c1, c2, c3⟩ := good_cmp g g2
  have : V * Z * c < U * W * c := Int.mul_lt_mul_of_pos_right h (by omega)
  exact ⟨by omega, fun e => by omega⟩
theorem good_same {P Q V W X Y U Z : Int} (g : MGood M k P Q V W) (g2 : MGood M k X Y U Z) (h : V * Z = U * W) (h2 : X * Q ≤ P * Y) : Beaten M k X Y P Q := by
  obtain ⟨c, c1, c2, c3⟩ := good_cmp g g2
  have : V * Z * c = U * W * c := by rw [h]
  exact ⟨by omega, fun _ => h2⟩
/-- Of ratios that are the same. -/
theorem lvOf_mul (hk : 1 ≤ k) {p q g : Int} (hg : 1 ≤ g) : lvOf M k (p * g) (q * g) = lvOf M k p q * g := by
  obtain ⟨y, hy, e⟩ := lv_at (M := M) hk p q
  obtain ⟨z, hz, f⟩ := lv_at (M := M) hk (p * g) (q * g)
  have hm : ∀ y, mval M (p * g) (q * g) y = mval M p q y * g := fun y => by rw [mval_slope, mval_slope]; grind
  have a := lv_le (M := M) (p * g) (q * g) hy
  have b := lv_le (M := M) p q hz
  rw [hm] at a f
  rw [e] at a
  have c : lvOf M k p q * g ≤ mval M p q z * g := Int.mul_le_mul_of_nonneg_right b (by omega)
  omega
theorem Beaten.scale (hk : 1 ≤ k) {P Q p q g : Int} (hg : 1 ≤ g) (h : Beaten M k P Q p q) : Beaten M k P Q (p * g) (q * g) := by
  obtain ⟨a, b⟩ := h
  unfold Beaten
  rw [lvOf_mul hk hg]
  generalize lvOf M k p q = l at *
  generalize lvOf M k P Q = L at *
  have c : l * Q * g ≤ L * q * g := Int.mul_le_mul_of_nonneg_right a (by omega)
  refine ⟨by grind, fun e => ?_⟩
  have e2 : l * Q = L * q := Int.eq_of_mul_eq_mul_right (a := g) (by omega) (by grind)
  have d : P * q * g ≤ p * Q * g := Int.mul_le_mul_of_nonneg_right (b e2) (by omega)
  grind
/-- Where the lines of c and d cross inside, that is beaten. -/
def CrossB (M : List (List Int)) (k : Nat) (P Q : Int) (c d : Nat) : Prop :=
  ∀ g t : Int, (g = ent M 1 d - ent M 1 c ∧ t = slope M c - slope M d ∨ g = -(ent M 1 d - ent M 1 c) ∧ t = -(slope M c - slope M d)) → 0 < g → g < t → Beaten M k P Q g t
theorem CrossB.next {P Q X Y : Int} {c d : Nat} (hQ : 1 ≤ Q) (hY : 1 ≤ Y) (h2 : Beaten M k X Y P Q) (h : CrossB M k P Q c d) : CrossB M k X Y c d :=
  fun g t he h1 h3 => (h g t he h1 h3).trans (by omega) hQ hY h2
theorem CrossB.symm {P Q : Int} {c d : Nat} (h : CrossB M k P Q c d) : CrossB M k P Q d c := fun g t he h1 h3 =>
  h g t (by omega) h1 h3
/-- In the end it is the answer. -/
theorem end_sol (p : Pay 2 k M) {P Q V W : Int} (g : MGood M k P Q V W) (h0 : Beaten M k P Q 0 1) (h1 : Beaten M k P Q 1 1) (h : ∀ c d, c < k → d < c → CrossB M k P Q c d) : Sol M k P Q V W := by
  have hk := p.k1
  have hx : ∀ i j, i < k → j < k → 0 < slope M i - slope M j → 0 ≤ ent M 1 j - ent M 1 i → ent M 1 j - ent M 1 i ≤ slope M i - slope M j → Beaten M k P Q (ent M 1 j - ent M 1 i) (slope M i - slope M j) := fun i j hi hj a b c => by
    by_cases q0 : ent M 1 j - ent M 1 i = 0
    · have := h0.scale hk (g := slope M i - slope M j) (by omega)
      rw [q0]; simpa using this
    · by_cases q1 : ent M 1 j - ent M 1 i = slope M i - slope M j
      · have := h1.scale hk (g := slope M i - slope M j) (by omega)
        rw [q1]; simpa using this
      · have hc : CrossB M k P Q i j := by
          rcases Nat.lt_trichotomy i j with e | e | e
          · exact (h j i hj e).symm
          · subst e; omega
          · exact h i j hi e
        exact hc _ _ (.inl ⟨rfl, rfl⟩) (by omega) (by omega)
  obtain ⟨e, e1, e2, e3⟩ := g.v
  let T : List (Int × Int) := (List.range k).flatMap fun i => (List.range k).filterMap fun j => if 0 < slope M i - slope M j ∧ 0 ≤ ent M 1 j - ent M 1 i ∧ ent M 1 j - ent M 1 i ≤ slope M i - slope M j then some (ent M 1 j - ent M 1 i, slope M i - slope M j) else none
  have hT : ∀ x, x ∈ T ↔ ∃ i j, i < k ∧ j < k ∧ (0 < slope M i - slope M j ∧ 0 ≤ ent M 1 j - ent M 1 i ∧ ent M 1 j - ent M 1 i ≤ slope M i - slope M j) ∧ x = (ent M 1 j - ent M 1 i, slope M i - slope M j) := fun x => by
    simp only [T, List.mem_flatMap, List.mem_filterMap, List.mem_range]
    constructor
    · rintro ⟨i, hi, j, hj, hh⟩
      split at hh
      · rename_i q; injection hh with hh; exact ⟨i, j, hi, hj, q, hh.symm⟩
      · cases hh
    · rintro ⟨i, j, hi, hj, q, rfl⟩
      exact ⟨i, hi, j, hj, by rw [if_pos q]⟩
  have hall : ∀ x ∈ (0, 1) :: (1, 1) :: (P, Q) :: T, (0 ≤ x.1 ∧ x.1 ≤ x.2 ∧ 1 ≤ x.2 ∧ x.2 ≤ 4000) ∧ Beaten M k P Q x.1 x.2 := fun x hxm => by
    rcases List.mem_cons.1 hxm with rfl | hxm
    · exact ⟨by decide, h0⟩
    · rcases List.mem_cons.1 hxm with rfl | hxm
      · exact ⟨by decide, h1⟩
      · rcases List.mem_cons.1 hxm with rfl | hxm
        · exact ⟨⟨g.p0, g.pq, g.q1, g.qb⟩, Beaten.self P Q⟩
        · obtain ⟨i, j, hi, hj, ⟨a, b, c⟩, rfl⟩ := (hT x).1 hxm
          have s1 := slope_bd p i
          have s2 := slope_bd p j
          exact ⟨by dsimp only; omega, hx i j hi hj a b c⟩
  have hC : Cand M k ((0, 1) :: (1, 1) :: (P, Q) :: T) := by
    refine ⟨List.mem_cons_self, List.mem_cons_of_mem _ List.mem_cons_self, fun x hxm => (hall x hxm).1, fun i j hi hj a b c => ?_⟩
    exact List.mem_cons_of_mem _ (List.mem_cons_of_mem _ (List.mem_cons_of_mem _ ((hT _).2 ⟨i, j, hi, hj, ⟨a, b, c⟩, rfl⟩)))
  refine best_sol hC hk (P0 := P) (Q0 := Q) (g := 1) (h := e) ⟨List.mem_cons_of_mem _ (List.mem_cons_of_mem _ List.mem_cons_self), fun c hc => (hall c hc).2.1, fun c hc => (hall c hc).2.2⟩ (by omega) e1 (by omega) (by omega) e2 e3 g.low g.lowV
end
end Fm

/-
  Seats by divisors, one by one, and by largest remainders: numbers alone, no Go text.
-/
import Derived.Test.YthcaipnlgbnfkaaPureA
namespace Fm
set_option linter.unusedVariables false

/-- The sum of the first n. -/
def sN (f : Nat → Nat) : Nat → Nat
  | 0 => 0
  | n + 1 => sN f n + f n
theorem sN_congr {f g : Nat → Nat} {n : Nat} (h : ∀ i, i < n → f i = g i) : sN f n = sN g n := by
  induction n with
  | zero => rfl
  | succ n ih => rw [sN, sN, ih (fun i hi => h i (by omega)), h n (by omega)]
theorem sN_le {f g : Nat → Nat} {n : Nat} (h : ∀ i, i < n → f i ≤ g i) : sN f n ≤ sN g n := by
  induction n with
  | zero => exact Nat.le_refl _
  | succ n ih => rw [sN, sN]; have := ih (fun i hi => h i (by omega)); have := h n (by omega); omega
theorem sN_add (f g : Nat → Nat) (n : Nat) : sN (fun i => f i + g i) n = sN f n + sN g n := by
  induction n with
  | zero => rfl
  | succ n ih => rw [sN, sN, sN, ih]; omega
theorem sN_mul (c : Nat) (f : Nat → Nat) (n : Nat) : sN (fun i => c * f i) n = c * sN f n := by
  induction n with
  | zero => rfl
  | succ n ih => rw [sN, sN, ih, Nat.mul_add]
theorem sN_zero (n : Nat) : sN (fun _ => 0) n = 0 := by
  induction n with
  | zero => rfl
  | succ n ih => rw [sN, ih]
theorem sN_mem {f : Nat → Nat} {n i : Nat} (hi : i < n) : f i ≤ sN f n := by
  induction n with
  | zero => omega
  | succ n ih =>
    rw [sN]
    by_cases e : i = n
    · subst e; omega
    · have := ih (by omega); omega
/-- One of them raised by one. -/
def up1 (s : Nat → Nat) (b : Nat) : Nat → Nat := fun i => if i = b then s i + 1 else s i
theorem sN_up (s : Nat → Nat) {b n : Nat} (hb : b < n) : sN (up1 s b) n = sN s n + 1 := by
  induction n with
  | zero => omega
  | succ n ih =>
    rw [sN, sN]
    by_cases e : b = n
    · subst e
      have : sN (up1 s b) b = sN s b := sN_congr (fun i hi => by unfold up1; rw [if_neg (by omega)])
      rw [this]; unfold up1; rw [if_pos rfl]; omega
    · rw [ih (by omega)]; unfold up1; rw [if_neg (by omega)]; omega
/-- If the sums are the same and one is less, another is more. -/
theorem sN_more {f g : Nat → Nat} {n : Nat} (h : sN f n = sN g n) {i : Nat} (hi : i < n) (hlt : f i < g i) : ∃ k, k < n ∧ g k < f k := by
  by_cases hh : ∃ k, k < n ∧ g k < f k
  · exact hh
  · exfalso
    have h1 : ∀ k, k < n → f k ≤ g k := fun k hk => by
      by_cases q : g k < f k
      · exact absurd ⟨k, hk, q⟩ hh
      · omega
    have h2 : sN (up1 f i) n ≤ sN g n := sN_le (fun k hk => by
      unfold up1
      by_cases e : k = i
      · subst e; rw [if_pos rfl]; omega
      · rw [if_neg e]; exact h1 k hk)
    rw [sN_up f hi] at h2
    omega

/-- a over b is less than c over d. -/
def flt (a b c d : Nat) : Prop := a * d < c * b
instance (a b c d : Nat) : Decidable (flt a b c d) := by unfold flt; infer_instance
theorem flt_trans {a b c d e f : Nat} (hd : 0 < d) (hf : 0 < f) (h1 : flt a b c d) (h2 : ¬ flt e f c d) : flt a b e f := by
  unfold flt at *
  have h2 : c * f ≤ e * d := by omega
  have q1 : a * d * f < c * b * f := Nat.mul_lt_mul_of_pos_right h1 hf
  have q2 : c * f * b ≤ e * d * b := Nat.mul_le_mul_right b h2
  have q3 : a * f * d < e * b * d := by
    have e1 : a * f * d = a * d * f := Nat.mul_right_comm a f d
    have e2 : c * b * f = c * f * b := Nat.mul_right_comm c b f
    have e3 : e * b * d = e * d * b := Nat.mul_right_comm e b d
    omega
  exact Nat.lt_of_mul_lt_mul_right q3
theorem fle_trans {a b c d e f : Nat} (hd : 0 < d) (h1 : ¬ flt c d a b) (h2 : ¬ flt e f c d) : ¬ flt e f a b := by
  unfold flt at *
  intro h
  have h1 : a * d ≤ c * b := by omega
  have h2 : c * f ≤ e * d := by omega
  have q1 : a * d * f ≤ c * b * f := Nat.mul_le_mul_right f h1
  have q2 : c * f * b ≤ e * d * b := Nat.mul_le_mul_right b h2
  have q3 : a * f * d ≤ e * b * d := by
    have e1 : a * f * d = a * d * f := Nat.mul_right_comm a f d
    have e2 : c * b * f = c * f * b := Nat.mul_right_comm c b f
    have e3 : e * b * d = e * d * b := Nat.mul_right_comm e b d
    omega
  have := Nat.le_of_mul_le_mul_right q3 hd
  omega
theorem flt_trans2 {a b c d e f : Nat} (hb : 0 < b) (hd : 0 < d) (h1 : ¬ flt c d a b) (h2 : flt c d e f) : flt a b e f := by
  unfold flt at *
  have h1 : a * d ≤ c * b := by omega
  by_cases hf : f = 0
  · subst hf; rw [Nat.mul_zero] at h2 ⊢
    have : 0 < e * d := h2
    have he : 0 < e := Nat.pos_of_mul_pos_right this
    exact Nat.mul_pos he hb
  · have q1 : a * d * f ≤ c * b * f := Nat.mul_le_mul_right f h1
    have q2 : c * f * b < e * d * b := Nat.mul_lt_mul_of_pos_right h2 hb
    have q3 : a * f * d < e * b * d := by
      have e1 : a * f * d = a * d * f := Nat.mul_right_comm a f d
      have e2 : c * b * f = c * f * b := Nat.mul_right_comm c b f
      have e3 : e * b * d = e * d * b := Nat.mul_right_comm e b d
      omega
    exact Nat.lt_of_mul_lt_mul_right q3

/-- The first of the first n with the greatest x over d, the d positive. -/
def Pick (n : Nat) (x d : Nat → Nat) (b : Nat) : Prop := b < n ∧ (∀ j, j < n → ¬ flt (x b) (d b) (x j) (d j)) ∧ ∀ j, j < b → flt (x j) (d j) (x b) (d b)
def pickTo (x d : Nat → Nat) : Nat → Nat
  | 0 => 0
  | k + 1 => if flt (x (pickTo x d k)) (d (pickTo x d k)) (x (k + 1)) (d (k + 1)) then k + 1 else pickTo x d k
theorem pickTo_le (x d : Nat → Nat) (k : Nat) : pickTo x d k ≤ k := by
  induction k with
  | zero => exact Nat.le_refl _
  | succ k ih => rw [pickTo]; split <;> omega
theorem pickTo_pick {x d : Nat → Nat} (hd : ∀ i, 0 < d i) (k : Nat) : Pick (k + 1) x d (pickTo x d k) := by
  induction k with
  | zero => refine ⟨by rw [pickTo]; omega, fun j hj => ?_, fun j hj => by rw [pickTo] at hj; omega⟩
            have : j = 0 := by omega
            subst this; rw [pickTo]; unfold flt; omega
  | succ k ih =>
    obtain ⟨h1, h2, h3⟩ := ih
    rw [pickTo]
    by_cases h : flt (x (pickTo x d k)) (d (pickTo x d k)) (x (k + 1)) (d (k + 1))
    · rw [if_pos h]
      have hall : ∀ j, j < k + 1 → flt (x j) (d j) (x (k + 1)) (d (k + 1)) := fun j hj => flt_trans2 (hd _) (hd _) (h2 j hj) h
      refine ⟨by omega, fun j hj => ?_, hall⟩
      by_cases e : j = k + 1
      · subst e; unfold flt; omega
      · have := hall j (by omega)
        unfold flt at this ⊢
        omega
    · rw [if_neg h]
      refine ⟨by omega, fun j hj => ?_, h3⟩
      by_cases e : j = k + 1
      · subst e; exact h
      · exact h2 j (by omega)
theorem pick_one {n : Nat} {x d : Nat → Nat} {a b : Nat} (ha : Pick n x d a) (hb : Pick n x d b) : a = b := by
  by_cases h : a < b
  · exact absurd (hb.2.2 a h) (ha.2.1 b hb.1)
  · by_cases h2 : b < a
    · exact absurd (ha.2.2 b h2) (hb.2.1 a ha.1)
    · omega

/-- By divisors: the seats of each after so many. -/
def seatT (w n : Nat) (x : Nat → Nat) : Nat → Nat → Nat
  | 0 => fun _ => 0
  | t + 1 => up1 (seatT w n x t) (pickTo x (fun i => w * seatT w n x t i + 1) (n - 1))
section
variable {w n : Nat} {x : Nat → Nat}
theorem seatT_pick (hn : 1 ≤ n) (t : Nat) : Pick n x (fun i => w * seatT w n x t i + 1) (pickTo x (fun i => w * seatT w n x t i + 1) (n - 1)) := by
  have := pickTo_pick (x := x) (d := fun i => w * seatT w n x t i + 1) (fun i => by simp) (n - 1)
  rwa [show n - 1 + 1 = n by omega] at this
theorem seatT_sum (hn : 1 ≤ n) (t : Nat) : sN (seatT w n x t) n = t := by
  induction t with
  | zero => exact sN_zero n
  | succ t ih => rw [seatT, sN_up _ (seatT_pick hn t).1, ih]
theorem seatT_step (t i : Nat) : seatT w n x t i ≤ seatT w n x (t + 1) i ∧ seatT w n x (t + 1) i ≤ seatT w n x t i + 1 := by
  rw [seatT]; unfold up1; split <;> omega
/-- No seat would be better taken from one and given to another. -/
theorem seatT_div (hn : 1 ≤ n) (t : Nat) : ∀ i k, i < n → k < n → 0 < seatT w n x t i → x k * (w * (seatT w n x t i - 1) + 1) ≤ x i * (w * seatT w n x t k + 1) := by
  induction t with
  | zero => intro i k _ _ h; rw [seatT] at h; dsimp only at h; omega
  | succ t ih =>
    intro i k hi hk h
    obtain ⟨p1, p2, p3⟩ := seatT_pick (w := w) (x := x) hn t
    rw [seatT] at h ⊢
    generalize pickTo x (fun i => w * seatT w n x t i + 1) (n - 1) = b at *
    by_cases hib : i = b
    · subst hib
      have hk2 : seatT w n x t k ≤ up1 (seatT w n x t) i k := by unfold up1; split <;> omega
      have e : up1 (seatT w n x t) i i - 1 = seatT w n x t i := by unfold up1; rw [if_pos rfl]; omega
      rw [e]
      have q := p2 k hk
      unfold flt at q
      dsimp only at q
      have q2 : x k * (w * seatT w n x t i + 1) ≤ x i * (w * seatT w n x t k + 1) := by omega
      refine Nat.le_trans q2 (Nat.mul_le_mul_left _ ?_)
      have := Nat.mul_le_mul_left w hk2
      omega
    · have e : up1 (seatT w n x t) b i = seatT w n x t i := by unfold up1; rw [if_neg hib]
      rw [e] at h ⊢
      refine Nat.le_trans (ih i k hi hk h) (Nat.mul_le_mul_left _ ?_)
      have hk2 : seatT w n x t k ≤ up1 (seatT w n x t) b k := by unfold up1; split <;> omega
      have := Nat.mul_le_mul_left w hk2
      omega
/-- Who has no fewer people and stands ahead has no fewer seats. -/
theorem seatT_mono (hn : 1 ≤ n) (t : Nat) : ∀ k i, k < i → i < n → x i ≤ x k → seatT w n x t i ≤ seatT w n x t k := by
  induction t with
  | zero => intro k i _ _ _; exact Nat.le_refl _
  | succ t ih =>
    intro k i hki hi hx
    have h0 := ih k i hki hi hx
    obtain ⟨p1, p2, p3⟩ := seatT_pick (w := w) (x := x) hn t
    rw [seatT]
    generalize pickTo x (fun i => w * seatT w n x t i + 1) (n - 1) = b at *
    unfold up1
    by_cases hib : i = b
    · subst hib
      rw [if_pos rfl, if_neg (by omega)]
      by_cases e : seatT w n x t i = seatT w n x t k
      · exfalso
        have q := p3 k hki
        unfold flt at q
        dsimp only at q
        rw [e] at q
        have := Nat.mul_le_mul_right (w * seatT w n x t k + 1) hx
        omega
      · omega
    · rw [if_neg hib]; split <;> omega
theorem pickTo_scale {c : Nat} (hc : 0 < c) (d : Nat → Nat) (k : Nat) : pickTo (fun i => c * x i) d k = pickTo x d k := by
  induction k with
  | zero => rfl
  | succ k ih =>
    rw [pickTo, pickTo, ih]
    have e : flt (c * x (pickTo x d k)) (d (pickTo x d k)) (c * x (k + 1)) (d (k + 1)) ↔ flt (x (pickTo x d k)) (d (pickTo x d k)) (x (k + 1)) (d (k + 1)) := by
      unfold flt
      rw [Nat.mul_assoc, Nat.mul_assoc]
      exact Nat.mul_lt_mul_left hc
    by_cases h : flt (x (pickTo x d k)) (d (pickTo x d k)) (x (k + 1)) (d (k + 1))
    · rw [if_pos h, if_pos (e.2 h)]
    · rw [if_neg h, if_neg (fun q => h (e.1 q))]
theorem seatT_scale {c : Nat} (hc : 0 < c) (t : Nat) : seatT w n (fun i => c * x i) t = seatT w n x t := by
  induction t with
  | zero => rfl
  | succ t ih => rw [seatT, seatT, ih, pickTo_scale hc]
/-- With as many seats as people each has as many as it has people. -/
theorem seatT_all (hn : 1 ≤ n) (hw : 1 ≤ w) : ∀ i, i < n → seatT w n x (sN x n) i = x i := by
  have hs := seatT_sum (w := w) (x := x) hn (sN x n)
  have no : ¬ ∃ k, k < n ∧ x k < seatT w n x (sN x n) k := by
    rintro ⟨i, hi, h⟩
    obtain ⟨k, hk, h2⟩ := sN_more hs.symm hi h
    have q := seatT_div (w := w) (x := x) hn (sN x n) i k hi hk (by omega)
    generalize seatT w n x (sN x n) i = a at *
    generalize seatT w n x (sN x n) k = b at *
    have q1 : x k * (w * x i + 1) ≤ x k * (w * (a - 1) + 1) := Nat.mul_le_mul_left _ (by have := Nat.mul_le_mul_left w (show x i ≤ a - 1 by omega); omega)
    have q2 : x i * (w * b + 1) ≤ x i * (w * (x k - 1) + 1) := Nat.mul_le_mul_left _ (by have := Nat.mul_le_mul_left w (show b ≤ x k - 1 by omega); omega)
    obtain ⟨y, hy⟩ : ∃ y, x k = y + 1 := ⟨x k - 1, by omega⟩
    rw [hy] at q1 q2 q
    have e1 : (y + 1) * (w * x i + 1) = w * x i * y + w * x i + y + 1 := by rw [Nat.mul_add, Nat.mul_one, Nat.add_mul, Nat.one_mul, Nat.mul_comm y]; omega
    have e2 : x i * (w * (y + 1 - 1) + 1) = w * x i * y + x i := by rw [Nat.add_sub_cancel, Nat.mul_add, Nat.mul_one, ← Nat.mul_assoc, Nat.mul_comm (x i) w]
    have e3 : x i ≤ w * x i := Nat.le_mul_of_pos_left _ hw
    omega
  intro i hi
  by_cases h1 : x i < seatT w n x (sN x n) i
  · exact absurd ⟨i, hi, h1⟩ no
  · by_cases h2 : seatT w n x (sN x n) i < x i
    · exact absurd (sN_more hs hi h2) no
    · omega
/-- Jefferson: no less than the part, rounded down. -/
theorem seatT_quota (hn : 1 ≤ n) (t : Nat) (hp : 0 < sN x n) : ∀ i, i < n → x i * t / sN x n ≤ seatT 1 n x t i := by
  intro i hi
  by_cases h : x i * t / sN x n ≤ seatT 1 n x t i
  · exact h
  · exfalso
    have hs := seatT_sum (w := 1) (x := x) hn t
    -- (b_i + 1) * all ≤ x_i * t
    have h1 : (seatT 1 n x t i + 1) * sN x n ≤ x i * t := by
      have := Nat.div_mul_le_self (x i * t) (sN x n)
      exact Nat.le_trans (Nat.mul_le_mul_right _ (by omega)) this
    have e1 : sN (fun k => sN x n * seatT 1 n x t k) n = sN (fun k => t * x k) n := by rw [sN_mul, sN_mul, hs, Nat.mul_comm]
    have hlt : sN x n * seatT 1 n x t i < t * x i := by rw [Nat.add_mul, Nat.one_mul] at h1; rw [Nat.mul_comm (sN x n), Nat.mul_comm t]; omega
    obtain ⟨k, hk, h2⟩ := sN_more e1 hi hlt
    have hpos : 0 < seatT 1 n x t k := by
      by_cases q : seatT 1 n x t k = 0
      · rw [q, Nat.mul_zero] at h2; omega
      · omega
    have q := seatT_div (w := 1) (x := x) hn t k i hk hi hpos
    generalize seatT 1 n x t k = a at *
    generalize seatT 1 n x t i = b at *
    rw [Nat.one_mul, Nat.one_mul, show a - 1 + 1 = a by omega] at q
    -- x_i * a ≤ x_k * (b+1); t x_k < all a; (b+1) all ≤ x_i t
    have q1 : (b + 1) * sN x n * a ≤ x i * t * a := Nat.mul_le_mul_right a h1
    have q2 : x i * a * t ≤ x k * (b + 1) * t := Nat.mul_le_mul_right t q
    have q3 : t * x k * (b + 1) < sN x n * a * (b + 1) := Nat.mul_lt_mul_of_pos_right h2 (by omega)
    have c1 : x i * t * a = x i * a * t := Nat.mul_right_comm _ _ _
    have c2 : x k * (b + 1) * t = t * x k * (b + 1) := by rw [Nat.mul_comm _ t, ← Nat.mul_assoc]
    have c3 : (b + 1) * sN x n * a = sN x n * a * (b + 1) := by rw [Nat.mul_assoc, Nat.mul_comm]
    omega
end
end Fm

/-
  Seats by largest remainders; for two parties they agree with the odd divisors: numbers alone, no Go text.
-/
import Derived.Test.YtedllchlhdjanaaSeatMath
namespace Fm
set_option linter.unusedVariables false

theorem pickTo_iff {x d y e : Nat → Nat} (h : ∀ i j, flt (x i) (d i) (x j) (d j) ↔ flt (y i) (e i) (y j) (e j)) (k : Nat) : pickTo x d k = pickTo y e k := by
  induction k with
  | zero => rfl
  | succ k ih =>
    rw [pickTo, pickTo, ih]
    by_cases q : flt (y (pickTo y e k)) (e (pickTo y e k)) (y (k + 1)) (e (k + 1))
    · rw [if_pos q, if_pos ((h _ _).2 q)]
    · rw [if_neg q, if_neg (fun q2 => q ((h _ _).1 q2))]

/-- What is looked at: those that have none of what is left, by their remainders. -/
def remX (r : Nat → Nat) (e : Nat → Bool) (i : Nat) : Nat := if e i = true then 0 else r i + 1
def setB (e : Nat → Bool) (b : Nat) : Nat → Bool := fun i => if i = b then true else e i
/-- Who has one of the first m that were left. -/
def partT (n : Nat) (r : Nat → Nat) : Nat → Nat → Bool
  | 0 => fun _ => false
  | m + 1 => setB (partT n r m) (pickTo (remX r (partT n r m)) (fun _ => 1) (n - 1))
def cB (e : Nat → Bool) (n : Nat) : Nat := sN (fun i => if e i = true then 1 else 0) n
section
variable {n : Nat} {r : Nat → Nat}
theorem partT_pick (hn : 1 ≤ n) (m : Nat) : Pick n (remX r (partT n r m)) (fun _ => 1) (pickTo (remX r (partT n r m)) (fun _ => 1) (n - 1)) := by
  have := pickTo_pick (x := remX r (partT n r m)) (d := fun _ => 1) (fun i => by simp) (n - 1)
  rwa [show n - 1 + 1 = n by omega] at this
theorem cB_set {e : Nat → Bool} {b : Nat} (hb : b < n) (he : e b = false) : cB (setB e b) n = cB e n + 1 := by
  unfold cB
  rw [← sN_up _ hb]
  refine sN_congr (fun i hi => ?_)
  unfold setB up1
  by_cases q : i = b
  · subst q; simp [he]
  · rw [if_neg q, if_neg q]
theorem cB_free {e : Nat → Bool} (h : cB e n < n) : ∃ i, i < n ∧ e i = false := by
  by_cases q : ∃ i, i < n ∧ e i = false
  · exact q
  · exfalso
    have : sN (fun _ => 1) n ≤ cB e n := sN_le (fun i hi => by
      cases hh : e i with
      | true => simp
      | false => exact absurd ⟨i, hi, hh⟩ q)
    have e1 : ∀ m, sN (fun _ => 1) m = m := fun m => by
      induction m with
      | zero => rfl
      | succ m ih => rw [sN, ih]
    rw [e1] at this
    omega
/-- The next is one that has none. -/
theorem partT_free (hn : 1 ≤ n) {m : Nat} (h : cB (partT n r m) n < n) : partT n r m (pickTo (remX r (partT n r m)) (fun _ => 1) (n - 1)) = false := by
  obtain ⟨p1, p2, p3⟩ := partT_pick (r := r) hn m
  obtain ⟨i, hi, hf⟩ := cB_free h
  generalize pickTo (remX r (partT n r m)) (fun _ => 1) (n - 1) = b at *
  cases hb : partT n r m b with
  | false => rfl
  | true =>
    exfalso
    have q := p2 i hi
    unfold flt remX at q
    rw [hb, hf] at q
    simp at q
theorem partT_count (hn : 1 ≤ n) : ∀ m, m ≤ n → cB (partT n r m) n = m := by
  intro m
  induction m with
  | zero => intro _; unfold cB; rw [partT]; simpa using sN_zero n
  | succ m ih =>
    intro hm
    have h := ih (by omega)
    rw [partT, cB_set (partT_pick hn m).1 (partT_free hn (by omega)), h]
/-- Who stands ahead with no less of a remainder is not passed by. -/
theorem partT_mono (hn : 1 ≤ n) (m : Nat) (hm : m ≤ n) : ∀ k i, k < i → i < n → r i ≤ r k → partT n r m i = true → partT n r m k = true := by
  induction m with
  | zero => intro k i _ _ _ h; rw [partT] at h; cases h
  | succ m ih =>
    intro k i hki hi hr h
    have hf := partT_free (r := r) hn (m := m) (by rw [partT_count hn m (by omega)]; omega)
    obtain ⟨p1, p2, p3⟩ := partT_pick (r := r) hn m
    rw [partT] at h ⊢
    generalize pickTo (remX r (partT n r m)) (fun _ => 1) (n - 1) = b at *
    unfold setB at h ⊢
    by_cases hkb : k = b
    · rw [if_pos hkb]
    · rw [if_neg hkb]
      by_cases hib : i = b
      · subst hib
        cases hk : partT n r m k with
        | true => rfl
        | false =>
          exfalso
          have q := p3 k hki
          unfold flt remX at q
          rw [hk, hf] at q
          simp at q
          omega
      · rw [if_neg hib] at h
        exact ih (by omega) k i hki hi hr h
theorem partT_scale {c : Nat} (hc : 0 < c) (m : Nat) : partT n (fun i => c * r i) m = partT n r m := by
  induction m with
  | zero => rfl
  | succ m ih =>
    rw [partT, partT, ih]
    congr 1
    refine pickTo_iff (fun i j => ?_) _
    unfold flt remX
    cases hi : partT n r m i <;> cases hj : partT n r m j <;> simp
    exact Nat.mul_lt_mul_left hc
end

/-- The part of the i-th, rounded down; what it exceeds that by; how many are left; the seats. -/
def fl (x : Nat → Nat) (n t i : Nat) : Nat := x i * t / sN x n
def rm (x : Nat → Nat) (n t i : Nat) : Nat := x i * t % sN x n
def lft (x : Nat → Nat) (n t : Nat) : Nat := t - sN (fl x n t) n
def partS (n : Nat) (x : Nat → Nat) (t i : Nat) : Nat := fl x n t i + if partT n (rm x n t) (lft x n t) i = true then 1 else 0
section
variable {n t : Nat} {x : Nat → Nat}
theorem fl_rm (i : Nat) : sN x n * fl x n t i + rm x n t i = t * x i := by
  unfold fl rm
  rw [Nat.mul_comm t]
  exact Nat.div_add_mod _ _
theorem rm_lt (hp : 0 < sN x n) (i : Nat) : rm x n t i < sN x n := Nat.mod_lt _ hp
theorem rm_sum (hp : 0 < sN x n) : sN (rm x n t) n = sN x n * lft x n t ∧ sN (fl x n t) n ≤ t := by
  have h : sN (fun i => sN x n * fl x n t i + rm x n t i) n = sN (fun i => t * x i) n := sN_congr (fun i _ => fl_rm i)
  rw [sN_add, sN_mul, sN_mul] at h
  have hle : sN (fl x n t) n ≤ t := by
    have : sN x n * sN (fl x n t) n ≤ sN x n * t := by rw [Nat.mul_comm t] at h; omega
    exact Nat.le_of_mul_le_mul_left this hp
  refine ⟨?_, hle⟩
  unfold lft
  rw [Nat.mul_sub, Nat.mul_comm (sN x n) t]
  omega
theorem lft_lt (hn : 1 ≤ n) (hp : 0 < sN x n) : lft x n t < n := by
  have h := (rm_sum (t := t) hp).1
  have h2 : sN (rm x n t) n + n ≤ sN x n * n := by
    have : sN (fun i => rm x n t i + 1) n ≤ sN (fun _ => sN x n) n := sN_le (fun i _ => rm_lt hp i)
    rw [sN_add] at this
    have e1 : ∀ c m, sN (fun _ => c) m = c * m := fun c m => by
      induction m with
      | zero => rfl
      | succ m ih => rw [sN, ih, Nat.mul_succ]
    rw [e1, e1, Nat.one_mul] at this
    exact this
  rw [h] at h2
  by_cases q : lft x n t < n
  · exact q
  · have := Nat.mul_le_mul_left (sN x n) (show n ≤ lft x n t by omega)
    omega
theorem partS_sum (hn : 1 ≤ n) (hp : 0 < sN x n) : sN (partS n x t) n = t := by
  have h : sN (partS n x t) n = sN (fl x n t) n + cB (partT n (rm x n t) (lft x n t)) n := by unfold partS cB; exact sN_add _ _ n
  rw [h, partT_count hn _ (Nat.le_of_lt (lft_lt hn hp))]
  have := (rm_sum (t := t) hp).2
  unfold lft
  omega
/-- Who has one of what was left had a remainder. -/
theorem partT_rem (hn : 1 ≤ n) (hp : 0 < sN x n) : ∀ m, m ≤ lft x n t → ∀ i, i < n → partT n (rm x n t) m i = true → 0 < rm x n t i := by
  intro m
  induction m with
  | zero => intro _ i _ h; rw [partT] at h; cases h
  | succ m ih =>
    intro hm i hi h
    have hlt := lft_lt (t := t) hn hp
    have hc := partT_count (r := rm x n t) hn m (by omega)
    have hf := partT_free (r := rm x n t) hn (m := m) (by omega)
    obtain ⟨p1, p2, p3⟩ := partT_pick (r := rm x n t) hn m
    rw [partT] at h
    generalize pickTo (remX (rm x n t) (partT n (rm x n t) m)) (fun _ => 1) (n - 1) = b at *
    unfold setB at h
    by_cases hib : i = b
    · subst hib
      by_cases q : 0 < rm x n t i
      · exact q
      · exfalso
        -- nobody without one has a remainder
        have hz : ∀ k, k < n → partT n (rm x n t) m k = false → rm x n t k = 0 := fun k hk hk2 => by
          have := p2 k hk
          unfold flt remX at this
          rw [hf, hk2] at this
          simp at this
          omega
        have h1 : sN (rm x n t) n + m ≤ sN x n * m := by
          have : sN (fun k => rm x n t k + if partT n (rm x n t) m k = true then 1 else 0) n ≤ sN (fun k => sN x n * if partT n (rm x n t) m k = true then 1 else 0) n := sN_le (fun k hk => by
            cases hk2 : partT n (rm x n t) m k with
            | true => have := rm_lt (t := t) hp k; simp; omega
            | false => rw [hz k hk hk2]; simp)
          rw [sN_add, sN_mul] at this
          have e : sN (fun k => if partT n (rm x n t) m k = true then 1 else 0) n = m := hc
          rw [e] at this
          exact this
        rw [(rm_sum (t := t) hp).1] at h1
        have := Nat.mul_le_mul_left (sN x n) (show m + 1 ≤ lft x n t by omega)
        rw [Nat.mul_succ] at this
        omega
    · rw [if_neg hib] at h
      exact ih (by omega) i hi h
theorem partS_quota (hn : 1 ≤ n) (hp : 0 < sN x n) {i : Nat} (hi : i < n) : fl x n t i ≤ partS n x t i ∧ partS n x t i ≤ fl x n t i + 1 ∧ (partS n x t i = fl x n t i + 1 → 0 < rm x n t i) := by
  unfold partS
  refine ⟨by omega, by split <;> omega, fun h => ?_⟩
  refine partT_rem hn hp _ (Nat.le_refl _) i hi ?_
  cases q : partT n (rm x n t) (lft x n t) i with
  | true => rfl
  | false => rw [q] at h; simp at h
theorem partS_mono (hn : 1 ≤ n) (hp : 0 < sN x n) {k i : Nat} (hki : k < i) (hi : i < n) (hx : x i ≤ x k) : partS n x t i ≤ partS n x t k := by
  have e1 := fl_rm (x := x) (n := n) (t := t) i
  have e2 := fl_rm (x := x) (n := n) (t := t) k
  have hx2 := Nat.mul_le_mul_left t hx
  have l1 := rm_lt (t := t) hp i
  have l2 := rm_lt (t := t) hp k
  have hf : fl x n t i ≤ fl x n t k := by unfold fl; exact Nat.div_le_div_right (Nat.mul_le_mul_right t hx)
  by_cases q : fl x n t i = fl x n t k
  · have hr : rm x n t i ≤ rm x n t k := by rw [q] at e1; omega
    have hm := partT_mono (r := rm x n t) hn (lft x n t) (Nat.le_of_lt (lft_lt hn hp)) k i hki hi hr
    unfold partS
    rw [q]
    cases q1 : partT n (rm x n t) (lft x n t) i with
    | false => simp
    | true => rw [hm q1]; exact Nat.le_refl _
  · have h1 := (partS_quota (t := t) hn hp hi).2.1
    have h2 := (partS_quota (t := t) hn hp (show k < n by omega)).1
    omega
theorem partS_scale {c : Nat} (hc : 0 < c) : partS n (fun i => c * x i) t = partS n x t := by
  have e1 : fl (fun i => c * x i) n t = fl x n t := by
    funext i; unfold fl; rw [sN_mul, Nat.mul_assoc, Nat.mul_div_mul_left _ _ hc]
  have e2 : rm (fun i => c * x i) n t = fun i => c * rm x n t i := by
    funext i; unfold rm; rw [sN_mul, Nat.mul_assoc, Nat.mul_mod_mul_left]
  funext i
  unfold partS lft
  rw [e1, e2, partT_scale hc]
theorem partS_all (hn : 1 ≤ n) (hp : 0 < sN x n) {i : Nat} : partS n x (sN x n) i = x i := by
  have e1 : fl x n (sN x n) = x := by funext i; unfold fl; exact Nat.mul_div_cancel _ hp
  unfold partS lft
  rw [e1, Nat.sub_self, partT]
  simp

/-- The last seat of one that stands behind was had for strictly more. -/
theorem seatT_strict {w : Nat} (hn : 1 ≤ n) (t : Nat) : ∀ k i, k < i → i < n → 0 < seatT w n x t i → x k * (w * (seatT w n x t i - 1) + 1) < x i * (w * seatT w n x t k + 1) := by
  induction t with
  | zero => intro k i _ _ h; rw [seatT] at h; dsimp only at h; omega
  | succ t ih =>
    intro k i hki hi h
    obtain ⟨p1, p2, p3⟩ := seatT_pick (w := w) (x := x) hn t
    rw [seatT] at h ⊢
    generalize pickTo x (fun i => w * seatT w n x t i + 1) (n - 1) = b at *
    have hk2 : seatT w n x t k ≤ up1 (seatT w n x t) b k := by unfold up1; split <;> omega
    have hk3 := Nat.mul_le_mul_left w hk2
    by_cases hib : i = b
    · subst hib
      have e : up1 (seatT w n x t) i i - 1 = seatT w n x t i := by unfold up1; rw [if_pos rfl]; omega
      rw [e]
      have q := p3 k hki
      unfold flt at q
      dsimp only at q
      exact Nat.lt_of_lt_of_le q (Nat.mul_le_mul_left _ (by omega))
    · have e : up1 (seatT w n x t) b i = seatT w n x t i := by unfold up1; rw [if_neg hib]
      rw [e] at h ⊢
      exact Nat.lt_of_lt_of_le (ih k i hki hi h) (Nat.mul_le_mul_left _ (by omega))
/-- For two parties the odd divisors and the largest remainders agree. -/
theorem seat_two (hp : 0 < sN x 2) : ∀ i, i < 2 → seatT 2 2 x t i = partS 2 x t i := by
  have hs := seatT_sum (w := 2) (n := 2) (x := x) (by omega) t
  have hq := partS_sum (n := 2) (t := t) (x := x) (by omega) hp
  have d := seatT_div (w := 2) (n := 2) (x := x) (by omega) t 0 1 (by omega) (by omega)
  have s := seatT_strict (w := 2) (n := 2) (x := x) (by omega) t 0 1 (by omega) (by omega)
  have e0 := fl_rm (x := x) (n := 2) (t := t) 0
  have e1 := fl_rm (x := x) (n := 2) (t := t) 1
  have l0 := rm_lt (t := t) hp 0
  have l1 := rm_lt (t := t) hp 1
  have hA : sN x 2 = x 0 + x 1 := by simp [sN]
  have hrs := (rm_sum (t := t) hp).1
  have hll := lft_lt (t := t) (by omega) hp
  have hrs2 : rm x 2 t 0 + rm x 2 t 1 = sN x 2 * lft x 2 t := by rw [← hrs]; simp [sN]
  have hss : seatT 2 2 x t 0 + seatT 2 2 x t 1 = t := by
    have : seatT 2 2 x t 0 + seatT 2 2 x t 1 = sN (seatT 2 2 x t) 2 := by simp [sN]
    rw [this, hs]
  have hqq : partS 2 x t 0 + partS 2 x t 1 = t := by
    have : partS 2 x t 0 + partS 2 x t 1 = sN (partS 2 x t) 2 := by simp [sN]
    rw [this, hq]
  -- the first party
  have main : seatT 2 2 x t 0 = partS 2 x t 0 := by
    have hP : partS 2 x t 0 = fl x 2 t 0 + if partT 2 (rm x 2 t) (lft x 2 t) 0 = true then 1 else 0 := rfl
    have hl : lft x 2 t = 0 ∨ lft x 2 t = 1 := by omega
    have hpt : (partT 2 (rm x 2 t) (lft x 2 t) 0 = true) ↔ lft x 2 t = 1 ∧ rm x 2 t 1 ≤ rm x 2 t 0 := by
      rcases hl with h | h
      · rw [h, partT]; simp
      · rw [h, partT, partT]
        simp only [setB, pickTo, remX, flt]
        by_cases q : rm x 2 t 0 < rm x 2 t 1
        · simp [q]
        · simp [q]; omega
    rw [hP]
    clear hP hqq hq hs hrs
    generalize partT 2 (rm x 2 t) (lft x 2 t) 0 = bb at *
    generalize seatT 2 2 x t 0 = a at *
    generalize seatT 2 2 x t 1 = b at *
    generalize fl x 2 t 0 = q0 at *
    generalize fl x 2 t 1 = q1 at *
    generalize rm x 2 t 0 = r0 at *
    generalize rm x 2 t 1 = r1 at *
    generalize lft x 2 t = lf at *
    generalize sN x 2 = A at *
    generalize x 0 = X at *
    generalize x 1 = Y at *
    -- 2 a A ≤ 2 X t + A, and 2 X t < 2 a A + A
    have f1 : 2 * (A * a) ≤ 2 * (t * X) + A := by
      by_cases ha : a = 0
      · subst ha; omega
      · obtain ⟨a', rfl⟩ : ∃ a', a = a' + 1 := ⟨a - 1, by omega⟩
        have h := d (by omega)
        rw [Nat.add_sub_cancel] at h
        subst hss
        subst hA
        have c1 : Y * (2 * a' + 1) = 2 * (Y * a') + Y := by rw [Nat.mul_add, Nat.mul_one, Nat.mul_left_comm]
        have c2 : X * (2 * b + 1) = 2 * (X * b) + X := by rw [Nat.mul_add, Nat.mul_one, Nat.mul_left_comm]
        have c3 : (X + Y) * (a' + 1) = X * a' + X + (Y * a' + Y) := by rw [Nat.add_mul, Nat.mul_succ, Nat.mul_succ]
        have c4 : (a' + 1 + b) * X = X * a' + X + X * b := by rw [Nat.mul_comm, Nat.mul_add, Nat.mul_succ]
        omega
    have f2 : 2 * (t * X) < 2 * (A * a) + A := by
      by_cases hb : b = 0
      · subst hb
        rw [Nat.add_zero] at hss
        subst hss
        have : a * X ≤ A * a := by rw [Nat.mul_comm]; exact Nat.mul_le_mul_right _ (by omega)
        omega
      · obtain ⟨b', rfl⟩ : ∃ b', b = b' + 1 := ⟨b - 1, by omega⟩
        have h := s (by omega)
        rw [Nat.add_sub_cancel] at h
        subst hss
        subst hA
        have c1 : X * (2 * b' + 1) = 2 * (X * b') + X := by rw [Nat.mul_add, Nat.mul_one, Nat.mul_left_comm]
        have c2 : Y * (2 * a + 1) = 2 * (Y * a) + Y := by rw [Nat.mul_add, Nat.mul_one, Nat.mul_left_comm]
        have c3 : (X + Y) * a = X * a + Y * a := Nat.add_mul _ _ _
        have c4 : (a + (b' + 1)) * X = X * a + (X * b' + X) := by rw [Nat.mul_comm, Nat.mul_add, Nat.mul_succ]
        omega
    rw [← e0] at f1 f2
    have cmp : ∀ u v : Nat, u < v → A * u + A ≤ A * v := fun u v h => by
      have := Nat.mul_le_mul_left A (show u + 1 ≤ v by omega)
      rwa [Nat.mul_succ] at this
    have none : a = q0 ∨ a < q0 ∨ q0 < a := by omega
    cases bb with
    | true =>
      obtain ⟨g1, g2⟩ := hpt.1 rfl
      subst g1
      rw [Nat.mul_one] at hrs2
      simp only [if_true]
      rcases none with h | h | h
      · subst h; omega
      · have := cmp a q0 h; omega
      · by_cases h2 : q0 + 1 < a
        · have := cmp (q0 + 1) a h2
          rw [Nat.mul_succ] at this
          omega
        · omega
    | false =>
      have g : ¬ (lf = 1 ∧ r1 ≤ r0) := fun q => by have := hpt.2 q; cases this
      simp only [Bool.false_eq_true, if_false, Nat.add_zero]
      have hr : 2 * r0 < A := by
        rcases hl with h | h
        · subst h; rw [Nat.mul_zero] at hrs2; omega
        · subst h; rw [Nat.mul_one] at hrs2; omega
      rcases none with h | h | h
      · exact h
      · have := cmp a q0 h; omega
      · have := cmp q0 a h; omega
  intro i hi
  have : i = 0 ∨ i = 1 := by omega
  rcases this with rfl | rfl
  · exact main
  · omega
end
end Fm

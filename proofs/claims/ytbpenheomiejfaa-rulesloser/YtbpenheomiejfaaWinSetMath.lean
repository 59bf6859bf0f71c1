/-
  Copeland's scores, greatest defeats, and the Smith set: lists of ints alone, no Go text.
-/
import Derived.Test.YtbpenheomiejfaaDuelMath
import Derived.Test.YtbpenheomiejfaaSumMath
namespace Fm
set_option linter.unusedVariables false

theorem worst_ge (M : List (List Int)) (x : Nat) {j y : Nat} (h : y < j) : ent M y x - ent M x y ≤ worstTo M x j := by
  induction j with
  | zero => omega
  | succ j ih =>
    simp only [worstTo]
    by_cases hy : y = j
    · subst hy; omega
    · have := ih (by omega); omega
theorem worst_att (M : List (List Int)) (x j : Nat) : worstTo M x j = 0 ∨ ∃ y, y < j ∧ ent M y x - ent M x y = worstTo M x j := by
  induction j with
  | zero => left; rfl
  | succ j ih =>
    simp only [worstTo]
    rcases Int.le_total (worstTo M x j) (-(ent M x j - ent M j x)) with h | h
    · right; exact ⟨j, by omega, by omega⟩
    · rcases ih with h0 | ⟨y, hy, he⟩
      · left; omega
      · right; exact ⟨y, by omega, by omega⟩
theorem winTo_sum (M : List (List Int)) (x n : Nat) : winTo M x n = sumTo (fun y => sg (ent M x y - ent M y x)) n := by
  induction n with
  | zero => rfl
  | succ n ih => simp only [winTo, sumTo]; rw [ih]
theorem sg_neg (d : Int) : sg (-d) = - sg d := by
  unfold sg
  by_cases h : 0 < d
  · rw [if_neg (by omega), if_pos (by omega), if_pos h]
  · by_cases h2 : d < 0
    · rw [if_pos (by omega), if_neg h, if_pos h2]; rfl
    · rw [if_neg (by omega), if_neg (by omega), if_neg h, if_neg h2]; rfl
theorem sg_anti (M : List (List Int)) (x y : Nat) : sg (ent M x y - ent M y x) = - sg (ent M y x - ent M x y) := by
  rw [← sg_neg]; congr 1; omega
theorem wins_sum (n : Nat) (M : List (List Int)) : sumTo (fun x => winTo M x n) n = 0 := by
  have e : sumTo (fun x => winTo M x n) n = sumTo (fun x => sumTo (fun y => sg (ent M x y - ent M y x)) n) n := sumTo_congr (fun x _ => winTo_sum M x n)
  rw [e]
  exact sumTo_anti (fun i j _ _ => sg_anti M i j)
def ind (P : Nat → Bool) (x : Nat) : Int := if P x then 1 else 0
theorem ind_sum_pos {P : Nat → Bool} {n x : Nat} (hx : x < n) (h : P x = true) : 1 ≤ sumTo (ind P) n := by
  induction n with
  | zero => omega
  | succ n ih =>
    simp only [sumTo]
    by_cases e : x = n
    · subst e
      have h0 : 0 ≤ sumTo (ind P) x := by
        have := sumTo_le (f := fun _ => 0) (g := ind P) (n := x) (fun i _ => by unfold ind; split <;> omega)
        rw [sumTo_zero (fun _ _ => rfl)] at this; exact this
      have : ind P x = 1 := by unfold ind; rw [if_pos h]
      omega
    · have := ih (by omega)
      have : 0 ≤ ind P n := by unfold ind; split <;> omega
      omega
/-- One with the greatest score is in every set of which each beats all others. -/
theorem best_in {n : Nat} {M : List (List Int)} (P : Nat → Bool) (hne : ∃ z, z < n ∧ P z = true) (hd : ∀ x y, x < n → y < n → P x = true → P y = false → ent M y x < ent M x y)
    {x : Nat} (hx : x < n) (hmax : ∀ y, y < n → winTo M y n ≤ winTo M x n) : P x = true := by
  cases hpx : P x with
  | true => rfl
  | false =>
    exfalso
    obtain ⟨z, hz, hpz⟩ := hne
    have hs1 : 1 ≤ sumTo (ind P) n := ind_sum_pos hz hpz
    -- the scores within the set cancel
    have a1 : sumTo (fun i => ind P i * winTo M i n) n = sumTo (ind P) n * (n - sumTo (ind P) n) := by
      have e1 : sumTo (fun i => ind P i * winTo M i n) n = sumTo (fun i => sumTo (fun j => ind P i * ind P j * sg (ent M i j - ent M j i) + ind P i * (1 - ind P j)) n) n := by
        refine sumTo_congr (fun i hi => ?_)
        rw [winTo_sum, ← sumTo_mul]
        refine sumTo_congr (fun j hj => ?_)
        unfold ind
        cases h1 : P i with
        | false => simp
        | true =>
          cases h2 : P j with
          | true => simp
          | false =>
            have hb := hd i j hi hj h1 h2
            have : sg (ent M i j - ent M j i) = 1 := sg_one.2 (by omega)
            simp [this]
      rw [e1]
      have e2 : sumTo (fun i => sumTo (fun j => ind P i * ind P j * sg (ent M i j - ent M j i) + ind P i * (1 - ind P j)) n) n
          = sumTo (fun i => sumTo (fun j => ind P i * ind P j * sg (ent M i j - ent M j i)) n) n + sumTo (fun i => sumTo (fun j => ind P i * (1 - ind P j)) n) n := by
        rw [← sumTo_add]
        exact sumTo_congr (fun i _ => sumTo_add _ _ n)
      rw [e2, sumTo_anti (fun i j _ _ => by rw [sg_anti M i j, Int.mul_comm (ind P i) (ind P j), Int.mul_neg])]
      rw [Int.zero_add]
      have e3 : ∀ i, sumTo (fun j => ind P i * (1 - ind P j)) n = ind P i * (n - sumTo (ind P) n) := fun i => by
        rw [sumTo_mul]
        congr 1
        have : sumTo (fun j => 1 - ind P j) n = sumTo (fun _ => 1) n + sumTo (fun j => - ind P j) n := by
          rw [← sumTo_add]; exact sumTo_congr (fun j _ => by omega)
        rw [this, sumTo_neg, sumTo_const]; omega
      have e4 : sumTo (fun i => sumTo (fun j => ind P i * (1 - ind P j)) n) n = sumTo (fun i => (n - sumTo (ind P) n) * ind P i) n := sumTo_congr (fun i _ => by rw [e3 i, Int.mul_comm])
      rw [e4, sumTo_mul, Int.mul_comm]
    have a2 : sumTo (fun i => ind P i * winTo M i n) n ≤ sumTo (ind P) n * winTo M x n := by
      have : sumTo (fun i => ind P i * winTo M i n) n ≤ sumTo (fun i => winTo M x n * ind P i) n := sumTo_le (fun i hi => by
        have := hmax i hi
        unfold ind
        split
        · omega
        · simp)
      rw [sumTo_mul, Int.mul_comm] at this
      exact this
    -- x is beaten by each of the set
    have a3 : winTo M x n ≤ n - 1 - 2 * sumTo (ind P) n := by
      rw [winTo_sum]
      have : sumTo (fun y => sg (ent M x y - ent M y x)) n ≤ sumTo (fun y => (1 - ind (fun y => decide (y = x)) y) + (- 2) * ind P y) n := sumTo_le (fun y hy => by
        unfold ind
        by_cases hyx : y = x
        · subst hyx
          have h0 : sg (ent M y y - ent M y y) = 0 := by unfold sg; rw [if_neg (by omega), if_neg (by omega)]
          rw [h0]; simp [hpx]
        · cases hp : P y with
          | true =>
            have hb := hd y x hy hx hp hpx
            have : sg (ent M x y - ent M y x) = -1 := by unfold sg; rw [if_neg (by omega), if_pos (by omega)]
            simp [this, hyx]
          | false =>
            have := sg_le (ent M x y - ent M y x)
            simp [hyx]; omega)
      rw [sumTo_add, sumTo_mul] at this
      have e5 : sumTo (fun y => 1 - ind (fun y => decide (y = x)) y) n = n - sumTo (ind fun y => decide (y = x)) n := by
        have : sumTo (fun j => 1 - ind (fun y => decide (y = x)) j) n = sumTo (fun _ => 1) n + sumTo (fun j => - ind (fun y => decide (y = x)) j) n := by
          rw [← sumTo_add]; exact sumTo_congr (fun j _ => by omega)
        rw [this, sumTo_neg, sumTo_const]; omega
      have e6 := ind_sum_pos (P := fun y => decide (y = x)) hx (by simp)
      omega
    have a4 : sumTo (ind P) n * (n - sumTo (ind P) n) ≤ sumTo (ind P) n * winTo M x n := by rw [← a1]; exact a2
    have a5 := Int.le_of_mul_le_mul_left a4 (by omega)
    omega
theorem mem_topL {n : Nat} {M : List (List Int)} {x : Nat} : (x : Int) ∈ topL n M ↔ x < n ∧ inTop n M x = true := by
  unfold topL
  rw [List.mem_map]
  constructor
  · rintro ⟨y, hy, he⟩
    have : y = x := by omega
    subst this
    rw [List.mem_filter, List.mem_range] at hy
    exact hy
  · rintro ⟨h1, h2⟩
    exact ⟨x, List.mem_filter.2 ⟨List.mem_range.2 h1, h2⟩, rfl⟩
theorem topL_range {n : Nat} {M : List (List Int)} {x : Int} (h : x ∈ topL n M) : 0 ≤ x ∧ x < n := by
  unfold topL at h
  rw [List.mem_map] at h
  obtain ⟨y, hy, rfl⟩ := h
  rw [List.mem_filter, List.mem_range] at hy
  omega
theorem best_top {n : Nat} {M : List (List Int)} {x : Nat} (hx : x < n) (hmax : ∀ y, y < n → winTo M y n ≤ winTo M x n) : (x : Int) ∈ topL n M := by
  rw [mem_topL]
  refine ⟨hx, inTop_iff.2 (fun s h0 hs hd => ?_)⟩
  have hs2 : ∃ y, y < n ∧ s.testBit y = true := by
    obtain ⟨y, hy⟩ := Nat.exists_testBit_of_ne_zero (Nat.ne_of_gt h0)
    refine ⟨y, ?_, hy⟩
    rcases Nat.lt_or_ge y n with h | h
    · exact h
    · rw [Nat.testBit_lt_two_pow (Nat.lt_of_lt_of_le hs (Nat.pow_le_pow_right (by omega) h))] at hy; cases hy
  exact best_in (fun y => s.testBit y) hs2 (fun a b ha hb h1 h2 => dom_iff.1 hd a ha b hb h1 h2) hx hmax
/-- The Smith set itself is such a set. -/
theorem top_dom {n : Nat} (hn : 1 ≤ n) (M : List (List Int)) {x y : Nat} (hx : x < n) (hy : y < n) (h1 : (x : Int) ∈ topL n M) (h2 : (y : Int) ∉ topL n M) : ent M y x < ent M x y := by
  have h3 := bestTo_top (n := n) (M := M) hn
  rcases bestTo_inv n M (2 ^ n) (Nat.le_refl _) with ⟨hb, hno⟩ | ⟨u, hu0, hus, hud, hbu, hmin⟩
  · have hp : 2 ^ 1 ≤ 2 ^ n := Nat.pow_le_pow_right (by omega) hn
    have := hno (2 ^ n - 1) (by omega) (by omega)
    rw [full_dom] at this
    cases this
  · have e : topL n M = setL n u := by rw [← h3, hbu]
    have hm : ∀ z, z < n → ((z : Int) ∈ topL n M ↔ u.testBit z = true) := fun z hz => by
      rw [e]
      unfold setL
      rw [List.mem_map]
      constructor
      · rintro ⟨t, ht, he⟩
        have : t = z := by omega
        subst this
        exact (List.mem_filter.1 ht).2
      · intro h
        exact ⟨z, List.mem_filter.2 ⟨List.mem_range.2 hz, h⟩, rfl⟩
    have b2 : u.testBit y = false := by
      cases hb : u.testBit y with
      | false => rfl
      | true => exact absurd ((hm y hy).2 hb) h2
    exact dom_iff.1 hud x hx y hy ((hm x hx).1 h1) b2
theorem top_ne {n : Nat} (hn : 1 ≤ n) (M : List (List Int)) : topL n M ≠ [] := by
  have h3 := bestTo_top (n := n) (M := M) hn
  rcases bestTo_inv n M (2 ^ n) (Nat.le_refl _) with ⟨hb, hno⟩ | ⟨u, hu0, hus, hud, hbu, hmin⟩
  · have hp : 2 ^ 1 ≤ 2 ^ n := Nat.pow_le_pow_right (by omega) hn
    have := hno (2 ^ n - 1) (by omega) (by omega)
    rw [full_dom] at this
    cases this
  · rw [← h3, hbu]; exact setL_nil hu0 hus
/-- What is come to from one of the Smith set, by steps to those that do not beat, is all. -/
theorem top_reach {n : Nat} {M : List (List Int)} {x : Nat} (hx : (x : Int) ∈ topL n M) (Q : Nat → Bool) (hqx : Q x = true) (hc : ∀ a y, a < n → y < n → Q a = true → ent M y a ≤ ent M a y → Q y = true) : ∀ y, y < n → Q y = true := by
  intro y hy
  cases hq : Q y with
  | true => rfl
  | false =>
    exfalso
    have ht := (mem_topL.1 hx).2
    rw [inTop_iff] at ht
    have hxn := (mem_topL.1 hx).1
    have hb := ht (maskOf (fun z => !Q z) n) (mask_pos (n := n) (x := y) (by rw [maskOf_bit _ hy]; simp [hq])) (maskOf_lt _ n) (dom_iff.2 (fun a ha b hb h1 h2 => by
      rw [maskOf_bit _ ha] at h1
      rw [maskOf_bit _ hb] at h2
      simp at h1 h2
      rcases Int.lt_or_le (ent M b a) (ent M a b) with h | h
      · exact h
      · have := hc b a hb ha h2 h
        rw [this] at h1; cases h1))
    rw [maskOf_bit _ hxn, hqx] at hb
    cases hb
theorem maxOf_ge {p : List Int} {k : Nat} (hk : k < p.length) : ∀ m, k < m → m ≤ p.length → p.getD k 0 ≤ (p.take m).foldl max ((p.take m).headD 0) := by
  have key : ∀ (l : List Int) (a : Int), (a ≤ l.foldl max a) ∧ ∀ x ∈ l, x ≤ l.foldl max a := by
    intro l
    induction l with
    | nil => intro a; exact ⟨Int.le_refl _, fun x hx => by cases hx⟩
    | cons b l ih =>
      intro a
      simp only [List.foldl_cons]
      have h := ih (max a b)
      refine ⟨by have := h.1; omega, fun x hx => ?_⟩
      rcases List.mem_cons.1 hx with rfl | hx
      · have := h.1; omega
      · exact h.2 x hx
  intro m hkm hm
  refine (key (p.take m) _).2 _ ?_
  have : p.getD k 0 = (p.take m)[k]'(by rw [List.length_take]; omega) := by
    rw [List.getElem_take, List.getD_eq_getElem?_getD, List.getElem?_eq_getElem hk]; rfl
  rw [this]
  exact List.getElem_mem _
end Fm

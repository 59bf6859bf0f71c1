/-
  Games in which more are worth more together, and what holds in them: numbers and lists alone, no Go text.
-/
import Derived.Test.YtimjepakdldacaaM17
namespace Fm
set_option linter.unusedVariables false

/-- What the members of S have together. -/
def hI (x : Int → Int) (n S : Nat) : Int := tI (sides n) (fun y => if S.testBit y.toNat = true then x y else 0)
/-- Nobody has less than he could have; all is shared. -/
def coreG (v : Nat → Int) (n : Nat) (x : Int → Int) : Prop := (∀ S, S < 2 ^ n → v S ≤ hI x n S) ∧ hI x n (2 ^ n - 1) = v (2 ^ n - 1)
def convG (v : Nat → Int) (n : Nat) : Prop := ∀ a b, a < 2 ^ n → b < 2 ^ n → v a + v b ≤ v (a ||| b) + v (a &&& b)
section
variable {n : Nat} {v : Nat → Int} {p : List Int}
theorem hI_full (x : Int → Int) : hI x n (2 ^ n - 1) = tI (sides n) x := tI_congr (fun y hy => by
  have := mem_sides.1 hy
  rw [Nat.testBit_two_pow_sub_one, decide_eq_true (show y.toNat < n by omega), if_pos rfl])
theorem hI_perm (hp : p.Perm (sides n)) (x : Int → Int) (S : Nat) : hI x n S = tI p (fun y => if S.testBit y.toNat = true then x y else 0) := (tI_perm hp _).symm
theorem full_and {S : Nat} (hS : S < 2 ^ n) : S &&& (2 ^ n - 1) = S := by rw [Nat.and_two_pow_sub_one_eq_mod, Nat.mod_eq_of_lt hS]
/-- The bits of the next set. -/
theorem step_bits (hp : p.Perm (sides n)) {k : Nat} (hk : k < n) {x : Nat} (hx : p.getD k 0 = x) : (pS p k).testBit x = false ∧ ∀ j, (pS p (k + 1)).testBit j = ((pS p k).testBit j || decide (x = j)) := by
  have hl := perm_len hp
  obtain ⟨y, hy, hyn⟩ := at_nat hp hk
  have : y = x := by omega
  subst this
  obtain ⟨h1, h2, h3⟩ := pre_all hp hyn
  rw [← hy, pre_pS hp hk] at h1 h2
  refine ⟨h2, fun j => ?_⟩
  rw [pS_step hp hk hy, (add_tog hyn h1 h2).1, tog_bit]
  by_cases e : y = j
  · subst e; simp [h2]
  · simp [e]
/-- In a round game what each order gives holds. -/
theorem core_of_conv (hc : convG v n) (h0 : v 0 = 0) (hp : p.Perm (sides n)) : coreG v n (rowG v n p) := by
  have hl := perm_len hp
  refine ⟨fun S hS => ?_, by rw [hI_full, row_sum hp, h0]; omega⟩
  have h : ∀ k, k ≤ n → v (S &&& pS p k) ≤ tI (p.take k) (fun y => if S.testBit y.toNat = true then rowG v n p y else 0) := by
    intro k
    induction k with
    | zero => intro _; rw [pS_zero, Nat.and_zero, h0]; simp [tI]
    | succ k ih =>
      intro hk
      have ih := ih (by omega)
      obtain ⟨x, hx, hxn⟩ := at_nat hp (show k < n by omega)
      obtain ⟨b1, b2⟩ := step_bits hp (show k < n by omega) hx
      rw [take_succ_getD p k (by omega), tI_append, tI_cons, tI_nil, row_at hp (by omega), hx, Int.toNat_natCast]
      cases hb : S.testBit x with
      | false =>
        have e : S &&& pS p (k + 1) = S &&& pS p k := by
          apply Nat.eq_of_testBit_eq
          intro j
          rw [Nat.testBit_and, Nat.testBit_and, b2]
          by_cases q : x = j
          · subst q; simp [hb]
          · simp [q]
        rw [e]
        simp
        exact ih
      | true =>
        have e1 : (S &&& pS p (k + 1)) ||| pS p k = pS p (k + 1) := by
          apply Nat.eq_of_testBit_eq
          intro j
          rw [Nat.testBit_or, Nat.testBit_and, b2]
          by_cases q : x = j
          · subst q; simp [hb]
          · simp [q]
        have e2 : (S &&& pS p (k + 1)) &&& pS p k = S &&& pS p k := by
          apply Nat.eq_of_testBit_eq
          intro j
          rw [Nat.testBit_and, Nat.testBit_and, Nat.testBit_and, b2]
          by_cases q : x = j
          · subst q; simp [b1]
          · simp [q]
        have := hc (S &&& pS p (k + 1)) (pS p k) (Nat.and_lt_two_pow _ (pS_all hp (k + 1) (by omega)).1) (pS_all hp k (by omega)).1
        rw [e1, e2] at this
        simp
        omega
  have := h n (Nat.le_refl _)
  rw [pS_end hp, full_and hS, List.take_of_length_le (by omega)] at this
  rw [hI_perm hp]
  exact this
/-- An order that goes through the sets a and b, through a, and through a or b. -/
def thruB (p : List Int) (n a b : Nat) : Bool := (List.range (n + 1)).any fun k0 => (List.range (n + 1)).any fun k1 => (List.range (n + 1)).any fun k2 =>
  decide (k0 ≤ k1) && decide (k1 ≤ k2) && decide (pS p k0 = a &&& b) && decide (pS p k1 = a) && decide (pS p k2 = a ||| b) && (List.range n).all fun k => b.testBit (p.getD k 0).toNat == (decide (k < k0) || (decide (k1 ≤ k) && decide (k < k2)))
def thruAll (n : Nat) : Bool := (List.range (2 ^ n)).all fun a => (List.range (2 ^ n)).all fun b => (allO n).any fun p => thruB p n a b
theorem thru1 : thruAll 1 = true := by decide +kernel
theorem thru2 : thruAll 2 = true := by decide +kernel
theorem thru3 : thruAll 3 = true := by decide +kernel
theorem thru4 : thruAll 4 = true := by decide +kernel
/-- Where it holds for every order the game is round. -/
theorem conv_of_core (h1 : 1 ≤ n) (h4 : n ≤ 4) (h0 : v 0 = 0) (h : ∀ p, p.Perm (sides n) → coreG v n (rowG v n p)) : convG v n := by
  intro a b ha hb
  have hall : thruAll n = true := by
    have : n = 1 ∨ n = 2 ∨ n = 3 ∨ n = 4 := by omega
    rcases this with rfl | rfl | rfl | rfl
    · exact thru1
    · exact thru2
    · exact thru3
    · exact thru4
  unfold thruAll at hall
  rw [List.all_eq_true] at hall
  have q1 := hall a (List.mem_range.2 ha)
  rw [List.all_eq_true] at q1
  have q2 := q1 b (List.mem_range.2 hb)
  rw [List.any_eq_true] at q2
  obtain ⟨p, hpm, q3⟩ := q2
  have hp := mem_allO.1 hpm
  have hl := perm_len hp
  unfold thruB at q3
  rw [List.any_eq_true] at q3
  obtain ⟨k0, hk0, q3⟩ := q3
  rw [List.any_eq_true] at q3
  obtain ⟨k1, hk1, q3⟩ := q3
  rw [List.any_eq_true] at q3
  obtain ⟨k2, hk2, q3⟩ := q3
  simp only [Bool.and_eq_true, decide_eq_true_eq, List.all_eq_true, List.mem_range, beq_iff_eq] at q3
  obtain ⟨⟨⟨⟨⟨c1, c2⟩, e0⟩, e1⟩, e2⟩, hm⟩ := q3
  have hk2 := List.mem_range.1 hk2
  have hs : ∀ k, k ≤ n → tI (p.take k) (fun y => if b.testBit y.toNat = true then rowG v n p y else 0) = v (pS p (min k k0)) - v 0 + (v (pS p (max k1 (min k k2))) - v (pS p k1)) := by
    intro k
    induction k with
    | zero =>
      intro _
      have m1 : max k1 (min 0 k2) = k1 := by omega
      rw [Nat.zero_min, m1, pS_zero]
      simp [tI]
    | succ k ih =>
      intro hk
      rw [take_succ_getD p k (by omega), tI_append, tI_cons, tI_nil, ih (by omega), row_at hp (by omega), hm k (by omega)]
      by_cases d0 : k < k0
      · rw [decide_eq_true d0]
        rw [show min (k + 1) k0 = k + 1 by omega, show min k k0 = k by omega, show max k1 (min (k + 1) k2) = k1 by omega, show max k1 (min k k2) = k1 by omega]
        simp
        omega
      · rw [decide_eq_false d0, show min (k + 1) k0 = k0 by omega, show min k k0 = k0 by omega]
        by_cases d1 : k1 ≤ k
        · by_cases d2 : k < k2
          · rw [decide_eq_true d1, decide_eq_true d2, show max k1 (min (k + 1) k2) = k + 1 by omega, show max k1 (min k k2) = k by omega]
            simp
            omega
          · rw [decide_eq_false d2, show max k1 (min (k + 1) k2) = max k1 (min k k2) by omega]
            simp
        · rw [decide_eq_false d1, show max k1 (min (k + 1) k2) = max k1 (min k k2) by omega]
          simp
  have hs := hs n (Nat.le_refl _)
  rw [List.take_of_length_le (by omega), ← hI_perm hp, show min n k0 = k0 by omega, show max k1 (min n k2) = k2 by omega, e0, e1, e2, h0] at hs
  have hcore := (h p hp).1 b hb
  rw [hs] at hcore
  omega
/-- In a round game what all orders give together holds. -/
theorem core_sh (hc : convG v n) (h0 : v 0 = 0) : coreG (fun S => v S * ((allO n).length : Int)) n (shG v n) := by
  have e : ∀ S, hI (shG v n) n S = tL (allO n) (fun p => hI (rowG v n p) n S) := fun S => by
    unfold hI
    rw [← tI_tL]
    refine tI_congr (fun y _ => ?_)
    by_cases q : S.testBit y.toNat = true
    · rw [if_pos q]
      unfold shG
      exact tL_congr (fun p _ => by rw [if_pos q])
    · rw [if_neg q]
      have := tL_const (allO n) 0
      rw [Int.mul_zero] at this
      refine this.symm.trans (tL_congr (fun p _ => ?_))
      rw [if_neg q]
  refine ⟨fun S hS => ?_, ?_⟩
  · show v S * _ ≤ _
    rw [e, Int.mul_comm, ← tL_const]
    exact tL_le (fun p hp => (core_of_conv hc h0 (mem_allO.1 hp)).1 S hS)
  · rw [hI_full, sh_sum, h0, Int.mul_comm]; simp
/-- What holds is no less for each than he is worth alone. -/
theorem core_zero (h : coreG v n (fun _ => 0)) : (∀ i, i < n → v (2 ^ i) ≤ 0) ∧ v (2 ^ n - 1) = 0 := by
  have hz : ∀ S, hI (fun _ => 0) n S = 0 := fun S => by
    unfold hI
    have : ∀ l : List Int, tI l (fun y => if S.testBit y.toNat = true then 0 else 0) = 0 := fun l => by
      induction l with
      | nil => rfl
      | cons x l ih => rw [tI_cons, ih]; simp
    exact this _
  refine ⟨fun i hi => ?_, ?_⟩
  · have := h.1 (2 ^ i) (Nat.pow_lt_pow_right (by omega) hi)
    rwa [hz] at this
  · have := h.2
    rw [hz] at this
    omega

/-- A set that must be there for so much. -/
def unaG (d : Nat) (c : Int) (S : Nat) : Int := if S &&& d = d then c else 0
theorem una_conv {d : Nat} {c : Int} (hc : 0 ≤ c) : convG (unaG d c) n := by
  intro a b _ _
  have sub : ∀ S, S &&& d = d ↔ ∀ j, d.testBit j = true → S.testBit j = true := fun S => by
    constructor
    · intro h j hj
      have := congrArg (fun z => z.testBit j) h
      simp only [Nat.testBit_and] at this
      rw [hj] at this
      simpa using this
    · intro h
      apply Nat.eq_of_testBit_eq
      intro j
      rw [Nat.testBit_and]
      cases q : d.testBit j with
      | false => simp
      | true => rw [h j q]; rfl
  unfold unaG
  by_cases h1 : a &&& d = d
  · have h3 : (a ||| b) &&& d = d := (sub _).2 (fun j hj => by rw [Nat.testBit_or, (sub a).1 h1 j hj]; rfl)
    by_cases h2 : b &&& d = d
    · have h4 : (a &&& b) &&& d = d := (sub _).2 (fun j hj => by rw [Nat.testBit_and, (sub a).1 h1 j hj, (sub b).1 h2 j hj]; rfl)
      rw [if_pos h1, if_pos h2, if_pos h3, if_pos h4]; omega
    · rw [if_pos h1, if_neg h2, if_pos h3]; split <;> omega
  · by_cases h2 : b &&& d = d
    · have h3 : (a ||| b) &&& d = d := (sub _).2 (fun j hj => by rw [Nat.testBit_or, (sub b).1 h2 j hj]; simp)
      rw [if_neg h1, if_pos h2, if_pos h3]; split <;> omega
    · rw [if_neg h1, if_neg h2]; split <;> split <;> omega
theorem conv_add {v w : Nat → Int} (h1 : convG v n) (h2 : convG w n) : convG (fun S => v S + w S) n := fun a b ha hb => by
  have := h1 a b ha hb
  have := h2 a b ha hb
  dsimp only
  omega
theorem conv_congr {v w : Nat → Int} (h : ∀ S, S < 2 ^ n → v S = w S) (hv : convG v n) : convG w n := fun a b ha hb => by
  have := hv a b ha hb
  rwa [h a ha, h b hb, h _ (Nat.or_lt_two_pow ha hb), h _ (Nat.and_lt_two_pow _ hb)] at this
end
end Fm

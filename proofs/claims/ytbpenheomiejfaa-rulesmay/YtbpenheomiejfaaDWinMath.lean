/-
  Copeland's scores, counted pair by pair: lists of ints alone, no Go text.
-/
import Derived.Test.YtbpenheomiejfaaDuelMath
namespace Fm
set_option linter.unusedVariables false

/-- x beats y. -/
def btB (M : List (List Int)) (x y : Nat) : Bool := decide (ent M y x < ent M x y)
theorem btB_irr (M : List (List Int)) (x : Nat) : btB M x x = false := by simp [btB]
/-- How many of the first t are beaten by z, and beat z. -/
def winc (M : List (List Int)) (z : Nat) : Nat → Int
  | 0 => 0
  | t + 1 => winc M z t + if btB M z t then 1 else 0
def lossc (M : List (List Int)) (z : Nat) : Nat → Int
  | 0 => 0
  | t + 1 => lossc M z t + if btB M t z then 1 else 0
theorem winc_bd (M : List (List Int)) (z t : Nat) : 0 ≤ winc M z t ∧ winc M z t ≤ t := by
  induction t with
  | zero => simp [winc]
  | succ t ih => simp only [winc]; split <;> omega
theorem lossc_bd (M : List (List Int)) (z t : Nat) : 0 ≤ lossc M z t ∧ lossc M z t ≤ t := by
  induction t with
  | zero => simp [lossc]
  | succ t ih => simp only [lossc]; split <;> omega
theorem wins_split (M : List (List Int)) (z t : Nat) : winTo M z t = winc M z t - lossc M z t := by
  induction t with
  | zero => rfl
  | succ t ih =>
    simp only [winTo, winc, lossc, ih]
    have : sg (ent M z t - ent M t z) = (if btB M z t then 1 else 0) - (if btB M t z then (1 : Int) else 0) := by
      unfold sg btB
      by_cases h1 : ent M t z < ent M z t
      · rw [if_pos (by omega)]; simp [h1, show ¬ ent M z t < ent M t z by omega]
      · by_cases h2 : ent M z t < ent M t z
        · rw [if_neg (by omega), if_pos (by omega)]; simp [h1, h2]
        · rw [if_neg (by omega), if_neg (by omega)]; simp [h1, h2]
    omega
/-- The scores when all pairs of the first k, and those of k with the first j, have been met. -/
def scTo (M : List (List Int)) (n k j : Nat) (z : Int) : Int :=
  (if z < (k : Int) then winc M z.toNat n else if z = (k : Int) then winc M z.toNat j else 0) - lossc M z.toNat (if z < (j : Int) then k + 1 else k)
theorem scTo_bd (M : List (List Int)) {n k j : Nat} (hk : k ≤ n) (hj : j ≤ n) (z : Int) : -(n : Int) - 1 ≤ scTo M n k j z ∧ scTo M n k j z ≤ n := by
  unfold scTo
  have h1 := winc_bd M z.toNat n
  have h2 := winc_bd M z.toNat j
  have h3 := lossc_bd M z.toNat k
  have h4 := lossc_bd M z.toNat (k + 1)
  by_cases a : z < (k : Int)
  · rw [if_pos a]
    by_cases b : z < (j : Int)
    · rw [if_pos b]; omega
    · rw [if_neg b]; omega
  · rw [if_neg a]
    by_cases c : z = (k : Int)
    · rw [if_pos c]
      by_cases b : z < (j : Int)
      · rw [if_pos b]; omega
      · rw [if_neg b]; omega
    · rw [if_neg c]
      by_cases b : z < (j : Int)
      · rw [if_pos b]; omega
      · rw [if_neg b]; omega
theorem scTo_zero (M : List (List Int)) (n : Nat) : fnL n (fun _ => 0) = fnL n (scTo M n 0 0) := by
  refine fnL_congr n (fun z hz => ?_)
  unfold scTo
  rw [if_neg (show ¬ (z : Int) < ((0 : Nat) : Int) by omega), if_neg (show ¬ (z : Int) < ((0 : Nat) : Int) by omega)]
  split <;> simp [lossc, winc]
theorem scTo_next (M : List (List Int)) (n k : Nat) : fnL n (scTo M n k n) = fnL n (scTo M n (k + 1) 0) := by
  refine fnL_congr n (fun z hz => ?_)
  unfold scTo
  rw [if_pos (show (z : Int) < (n : Int) by omega), if_neg (show ¬ (z : Int) < ((0 : Nat) : Int) by omega)]
  by_cases a : (z : Int) < (k : Int)
  · rw [if_pos a, if_pos (by omega)]
  · rw [if_neg a]
    by_cases c : (z : Int) = (k : Int)
    · rw [if_pos c, if_pos (by omega)]
    · rw [if_neg c, if_neg (by omega)]
      split <;> simp [winc]
theorem scTo_end (M : List (List Int)) (n : Nat) : fnL n (scTo M n n 0) = winsL n M := by
  refine fnL_congr n (fun z hz => ?_)
  unfold scTo
  rw [if_pos (by omega), if_neg (by omega), wins_split]
theorem scTo_not (M : List (List Int)) (n : Nat) {k j : Nat} (h : btB M k j = false) : fnL n (scTo M n k j) = fnL n (scTo M n k (j + 1)) := by
  refine fnL_congr n (fun z hz => ?_)
  unfold scTo
  have e1 : (if (z : Int) < (k : Int) then winc M ((z : Int)).toNat n else if (z : Int) = (k : Int) then winc M ((z : Int)).toNat j else 0) = (if (z : Int) < (k : Int) then winc M ((z : Int)).toNat n else if (z : Int) = (k : Int) then winc M ((z : Int)).toNat (j + 1) else 0) := by
    by_cases a : (z : Int) < (k : Int)
    · rw [if_pos a, if_pos a]
    · rw [if_neg a, if_neg a]
      by_cases c : (z : Int) = (k : Int)
      · rw [if_pos c, if_pos c]
        have : z = k := by omega
        subst this
        simp [winc, h]
      · rw [if_neg c, if_neg c]
  rw [e1]
  congr 1
  by_cases b : (z : Int) < (j : Int)
  · rw [if_pos b, if_pos (by omega)]
  · rw [if_neg b]
    by_cases c : (z : Int) = j
    · rw [if_pos (by omega)]
      have : z = j := by omega
      subst this
      simp [lossc, h]
    · rw [if_neg (by omega)]
theorem scTo_won (M : List (List Int)) {n : Nat} {k j : Nat} (hk : k < n) (hj : j < n) (h : btB M k j = true) :
    ((fnL n (scTo M n k j)).set k (scTo M n k j k + 1)).set j (scTo M n k j j - 1) = fnL n (scTo M n k (j + 1)) := by
  have hne : k ≠ j := fun e => by subst e; rw [btB_irr] at h; cases h
  rw [fnL_set n _ hk, fnL_set n _ hj]
  refine fnL_congr n (fun z hz => ?_)
  by_cases hzj : (z : Int) = j
  · rw [if_pos hzj]
    have : z = j := by omega
    subst this
    unfold scTo
    rw [if_neg (show ¬ (z : Int) < (z : Int) by omega), if_pos (show (z : Int) < ((z + 1 : Nat) : Int) by omega)]
    have hz0 : ((z : Int)).toNat = z := by omega
    rw [hz0]
    simp only [lossc, h, if_true]
    rw [if_neg (show ¬ (z : Int) = (k : Int) by omega), if_neg (show ¬ (z : Int) = (k : Int) by omega)]
    omega
  · rw [if_neg hzj]
    by_cases hzk : (z : Int) = k
    · rw [if_pos hzk]
      have : z = k := by omega
      subst this
      unfold scTo
      have hz0 : ((z : Int)).toNat = z := by omega
      rw [if_neg (show ¬ (z : Int) < (z : Int) by omega), if_pos rfl, if_neg (show ¬ (z : Int) < (z : Int) by omega), if_pos rfl, hz0]
      simp only [winc, h, if_true]
      by_cases b : (z : Int) < (j : Int)
      · rw [if_pos b, if_pos (by omega)]; omega
      · rw [if_neg b, if_neg (by omega)]; omega
    · rw [if_neg hzk]
      unfold scTo
      rw [if_neg hzk, if_neg hzk]
      by_cases b : (z : Int) < (j : Int)
      · rw [if_pos b, if_pos (show (z : Int) < ((j + 1 : Nat) : Int) by omega)]
      · rw [if_neg b, if_neg (show ¬ (z : Int) < ((j + 1 : Nat) : Int) by omega)]
end Fm

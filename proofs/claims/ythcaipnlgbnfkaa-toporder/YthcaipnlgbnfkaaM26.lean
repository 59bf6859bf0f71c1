/-
  Several of our texts, one behind the other, each under its own words; no condition but those that each states.
-/
import Derived.Test.YthcaipnlgbnfkaaPureA
import Derived.Test.YthcaipnlgbnfkaaM3
/-
  A table that is laid row by row, and cell by cell: lists alone, no Go text.
-/
namespace Fm
set_option linter.unusedVariables false
/-- The first x rows, the first j cells of the next one, no cell of the others. -/
def rowsUp (P : List (List Int)) (n x j : Nat) : List (List Int) := P.take x ++ (P.getD x []).take j :: List.replicate (n - x - 1) []
def rowsAt (P : List (List Int)) (n x : Nat) : List (List Int) := P.take x ++ List.replicate (n - x) []
theorem rowsAt_zero (P : List (List Int)) (n : Nat) : List.replicate n [] = rowsAt P n 0 := by simp [rowsAt]
theorem rowsAt_up (P : List (List Int)) {n x : Nat} (hx : x < n) : rowsAt P n x = rowsUp P n x 0 := by
  unfold rowsAt rowsUp
  have e : n - x = (n - x - 1) + 1 := by omega
  rw [e, List.replicate_succ]
  simp
theorem rowsUp_len {P : List (List Int)} {n x : Nat} (hP : P.length = n) (hx : x < n) (j : Nat) : (rowsUp P n x j).length = n := by
  unfold rowsUp; simp [hP]; omega
theorem rowsUp_at {P : List (List Int)} {n x : Nat} (hP : P.length = n) (hx : x < n) (j : Nat) : (rowsUp P n x j).getD x [] = (P.getD x []).take j := by
  unfold rowsUp
  have hl : (P.take x).length = x := by simp [hP]; omega
  rw [List.getD_eq_getElem?_getD, List.getElem?_append_right (by omega), hl, Nat.sub_self]
  simp
theorem rowsUp_set {P : List (List Int)} {n x : Nat} (hP : P.length = n) (hx : x < n) (j j' : Nat) : (rowsUp P n x j).set x ((P.getD x []).take j') = rowsUp P n x j' := by
  unfold rowsUp
  have hl : (P.take x).length = x := by simp [hP]; omega
  rw [List.set_append_right _ _ (by omega), hl, Nat.sub_self, List.set_cons_zero]
theorem rowsUp_next {P : List (List Int)} {n x : Nat} (hP : P.length = n) (hx : x < n) (hr : (P.getD x []).length ≤ n) : rowsUp P n x n = rowsAt P n (x + 1) := by
  unfold rowsUp rowsAt
  rw [List.take_of_length_le hr, List.take_succ_eq_append_getElem (by omega), List.getD_eq_getElem?_getD, List.getElem?_eq_getElem (by omega), List.append_assoc, Nat.sub_sub]
  rfl
theorem rowsAt_end {P : List (List Int)} {n : Nat} (hP : P.length = n) : rowsAt P n n = P := by
  unfold rowsAt; rw [Nat.sub_self, List.take_of_length_le (by omega)]; simp
end Fm

/-
  The strongest paths by way of the first alternatives, one alternative more at a time (Floyd, Warshall): no Go text.
-/
namespace Fm
set_option linter.unusedVariables false

/-- The strength of the strongest path from x to y by way of the first k. -/
def fw (M : List (List Int)) : Nat → Nat → Nat → Int
  | 0, x, y => if ent M y x < ent M x y then ent M x y else 0
  | k + 1, x, y => if x = y then fw M k x y else max (fw M k x y) (min (fw M k x k) (fw M k k y))

section
variable {n : Nat} {M : List (List Int)}
theorem fw_nonneg (T : Tab n M) : ∀ k x y, 0 ≤ fw M k x y := by
  intro k
  induction k with
  | zero => intro x y; rw [fw]; split
            · exact (T.bd x y).1
            · omega
  | succ k ih => intro x y; rw [fw]; have := ih x y; split <;> omega
theorem fw_diag : ∀ k x, fw M k x x = 0 := by
  intro k
  induction k with
  | zero => intro x; rw [fw, if_neg (by omega)]
  | succ k ih => intro x; rw [fw, if_pos rfl]; exact ih x
theorem fw_col (T : Tab n M) (k x : Nat) : fw M (k + 1) x k = fw M k x k := by
  rw [fw]
  have h1 := fw_nonneg T k x k
  rw [fw_diag k k]
  split
  · rfl
  · omega
theorem fw_row (T : Tab n M) (k y : Nat) : fw M (k + 1) k y = fw M k k y := by
  rw [fw]
  have h1 := fw_nonneg T k k y
  rw [fw_diag k k]
  split
  · rfl
  · omega
theorem fw_up (k x y : Nat) : fw M k x y ≤ fw M (k + 1) x y := by
  rw [fw]; split <;> omega
theorem fw_more (x y : Nat) : ∀ k, fw M 0 x y ≤ fw M k x y := by
  intro k
  induction k with
  | zero => exact Int.le_refl _
  | succ k ih => exact Int.le_trans ih (fw_up k x y)
theorem fw_rch {t : Int} (ht : 1 ≤ t) : ∀ k x y, k ≤ n → x < n → y < n → t ≤ fw M k x y → Rch n M t x y := by
  intro k
  induction k with
  | zero =>
    intro x y _ hx hy h
    rw [fw] at h
    split at h
    · rename_i hlt
      exact Rch.step hy ⟨by unfold btB; exact decide_eq_true hlt, h⟩ (Rch.refl y)
    · omega
  | succ k ih =>
    intro x y hk hx hy h
    rw [fw] at h
    split at h
    · exact ih x y (by omega) hx hy h
    · by_cases h2 : t ≤ fw M k x y
      · exact ih x y (by omega) hx hy h2
      · exact (ih x k (by omega) hx (by omega) (by omega)).trans (ih k y (by omega) (by omega) hy (by omega))
theorem fw_trans (T : Tab n M) {t : Int} (ht : 1 ≤ t) : ∀ k j x y, j < k → x ≠ y → t ≤ fw M k x j → t ≤ fw M k j y → t ≤ fw M k x y := by
  intro k
  induction k with
  | zero => intro j x y h; omega
  | succ k ih =>
    intro j x y hj hxy h1 h2
    have up := fw_up (M := M) k x y
    have new : t ≤ fw M k x k → t ≤ fw M k k y → t ≤ fw M (k + 1) x y := fun a b => by rw [fw, if_neg hxy]; omega
    by_cases hjk : j = k
    · subst hjk
      rw [fw_col T] at h1
      rw [fw_row T] at h2
      exact new h1 h2
    · have hj : j < k := by omega
      have hxj : x ≠ j := fun e => by subst e; rw [fw_diag] at h1; omega
      have hjy : j ≠ y := fun e => by subst e; rw [fw_diag] at h2; omega
      rw [fw, if_neg hxj] at h1
      rw [fw, if_neg hjy] at h2
      by_cases a : t ≤ fw M k x j
      · by_cases b : t ≤ fw M k j y
        · exact Int.le_trans (ih j x y hj hxy a b) up
        · have c1 : t ≤ fw M k j k := by omega
          have c2 : t ≤ fw M k k y := by omega
          by_cases e : x = k
          · subst e; exact Int.le_trans c2 up
          · exact new (ih j x k hj e a c1) c2
      · have a1 : t ≤ fw M k x k := by omega
        have a2 : t ≤ fw M k k j := by omega
        by_cases b : t ≤ fw M k j y
        · by_cases e : k = y
          · subst e; exact Int.le_trans a1 up
          · exact new a1 (ih j k y hj e a2 b)
        · exact new a1 (by omega)
theorem fw_path (T : Tab n M) {x y : Nat} (hx : x < n) (hy : y < n) : fw M n x y = pathE n M x y := by
  by_cases hxy : x = y
  · subst hxy; rw [fw_diag, path_diag]
  · refine path_eq T hxy (fw_nonneg T n x y) (fun t ht => ⟨fun h => fw_rch ht n x y (Nat.le_refl _) hx hy h, fun h => ?_⟩)
    have h2 := h.ind (P := fun z => x = z ∨ t ≤ fw M n x z) (.inl rfl) (fun a b ha hb hp he => by
      have ha : a < n := by omega
      have e0 : t ≤ fw M n a b := by
        refine Int.le_trans ?_ (fw_more a b n)
        have h1 : ent M b a < ent M a b := of_decide_eq_true he.1
        rw [fw, if_pos h1]; exact he.2
      rcases hp with hp | hp
      · subst hp; exact .inr e0
      · by_cases e : x = b
        · exact .inl e
        · exact .inr (fw_trans T ht n a x b ha e hp e0))
    rcases h2 with h2 | h2
    · exact absurd h2 hxy
    · exact h2

/-- The table of the strongest paths by way of the first k. -/
def fwM (n : Nat) (M : List (List Int)) (k : Nat) : List (List Int) := fnM n (fun x y => fw M k x.toNat y.toNat)
/-- The same on the way: the first x rows, and the first y of the next, by way of one more. -/
def fwT (M : List (List Int)) (k x y : Nat) (a b : Int) : Int := if a < x ∨ (a = x ∧ b < y) then fw M (k + 1) a.toNat b.toNat else fw M k a.toNat b.toNat
def fwTo (n : Nat) (M : List (List Int)) (k x y : Nat) : List (List Int) := fnM n (fwT M k x y)
theorem fwM_end (T : Tab n M) : fwM n M n = pathM n M := fnM_congr n (fun x y hx hy => by simpa using fw_path T hx hy)
theorem fwTo_zero (k : Nat) : fwM n M k = fwTo n M k 0 0 := fnM_congr n (fun x y hx hy => by unfold fwT; rw [if_neg (by omega)])
theorem fwTo_next (k x : Nat) : fwTo n M k x n = fwTo n M k (x + 1) 0 := fnM_congr n (fun a b ha hb => by
  unfold fwT
  by_cases h : (a : Int) < x ∨ ((a : Int) = x ∧ (b : Int) < n)
  · rw [if_pos h, if_pos (by omega)]
  · rw [if_neg h, if_neg (by omega)])
theorem fwTo_end (k : Nat) : fwTo n M k n 0 = fwM n M (k + 1) := fnM_congr n (fun a b ha hb => by unfold fwT; rw [if_pos (by omega)])
theorem fwT_at (k x y : Nat) : fwT M k x y x y = fw M k x y := by unfold fwT; rw [if_neg (by omega)]; simp
theorem fwT_col (T : Tab n M) (k x y a : Nat) : fwT M k x y a k = fw M k a k := by
  unfold fwT; split
  · simpa using fw_col T k a
  · simp
theorem fwT_row (T : Tab n M) (k x y b : Nat) : fwT M k x y k b = fw M k k b := by
  unfold fwT; split
  · simpa using fw_row T k b
  · simp
theorem fwTo_len (k x y : Nat) : (fwTo n M k x y).length = n := fnM_len _ _
theorem fwTo_skip {k x : Nat} : fwTo n M k x x = fwTo n M k x (x + 1) := fnM_congr n (fun a b ha hb => by
  unfold fwT
  by_cases h : (a : Int) < x ∨ ((a : Int) = x ∧ (b : Int) < x)
  · rw [if_pos h, if_pos (by omega)]
  · rw [if_neg h]
    by_cases h2 : (a : Int) < x ∨ ((a : Int) = x ∧ (b : Int) < (x + 1 : Nat))
    · rw [if_pos h2]
      have e1 : a = x := by omega
      have e2 : b = x := by omega
      subst e1; subst e2
      simp [fw_diag]
    · rw [if_neg h2])
theorem fwTo_set {k x y : Nat} (hx : x < n) (hy : y < n) (hxy : x ≠ y) {z : Int} (hz : z = max (fw M k x y) (min (fw M k x k) (fw M k k y))) :
    (fwTo n M k x y).set x (((fwTo n M k x y).getD x []).set y z) = fwTo n M k x (y + 1) := by
  unfold fwTo
  rw [fnM_set n _ hx hy]
  refine fnM_congr n (fun a b ha hb => ?_)
  by_cases h : (a : Int) = x ∧ (b : Int) = y
  · rw [if_pos h]
    have e1 : a = x := by omega
    have e2 : b = y := by omega
    subst e1; subst e2
    unfold fwT
    rw [if_pos (by omega)]
    simp only [Int.toNat_natCast]
    rw [fw, if_neg hxy, hz]
  · rw [if_neg h]
    unfold fwT
    by_cases h2 : (a : Int) < x ∨ ((a : Int) = x ∧ (b : Int) < y)
    · rw [if_pos h2, if_pos (by omega)]
    · rw [if_neg h2, if_neg (by omega)]

/-- The first x rows of the steps, and the first y of the next; zeros in the rest of it, no cell of the others. -/
def stp (M : List (List Int)) (y : Nat) (x : Nat) (b : Int) : Int := if b < y then fw M 0 x b.toNat else 0
end
end Fm

/-
  A table that is laid row by row, the row at hand whatever it holds: lists alone, no Go text.
-/
namespace Fm
set_option linter.unusedVariables false
/-- The first x rows, the row r, no cell of the others. -/
def rowsMid (P : List (List Int)) (n x : Nat) (r : List Int) : List (List Int) := P.take x ++ r :: List.replicate (n - x - 1) []
theorem rowsAt_len {P : List (List Int)} {n x : Nat} (hP : P.length = n) (hx : x ≤ n) : (rowsAt P n x).length = n := by
  unfold rowsAt; simp [hP]; omega
theorem rowsAt_set {P : List (List Int)} {n x : Nat} (hP : P.length = n) (hx : x < n) (r : List Int) : (rowsAt P n x).set x r = rowsMid P n x r := by
  unfold rowsAt rowsMid
  have hl : (P.take x).length = x := by simp [hP]; omega
  have e : n - x = (n - x - 1) + 1 := by omega
  rw [e, List.replicate_succ, List.set_append_right _ _ (by omega), hl, Nat.sub_self, List.set_cons_zero]
  simp
theorem rowsMid_len {P : List (List Int)} {n x : Nat} (hP : P.length = n) (hx : x < n) (r : List Int) : (rowsMid P n x r).length = n := by
  unfold rowsMid; simp [hP]; omega
theorem rowsMid_at {P : List (List Int)} {n x : Nat} (hP : P.length = n) (hx : x < n) (r : List Int) : (rowsMid P n x r).getD x [] = r := by
  unfold rowsMid
  have hl : (P.take x).length = x := by simp [hP]; omega
  rw [List.getD_eq_getElem?_getD, List.getElem?_append_right (by omega), hl, Nat.sub_self]
  simp
theorem rowsMid_set {P : List (List Int)} {n x : Nat} (hP : P.length = n) (hx : x < n) (r r' : List Int) : (rowsMid P n x r).set x r' = rowsMid P n x r' := by
  unfold rowsMid
  have hl : (P.take x).length = x := by simp [hP]; omega
  rw [List.set_append_right _ _ (by omega), hl, Nat.sub_self, List.set_cons_zero]
theorem rowsMid_next {P : List (List Int)} {n x : Nat} (hP : P.length = n) (hx : x < n) {r : List Int} (hr : P.getD x [] = r) : rowsMid P n x r = rowsAt P n (x + 1) := by
  unfold rowsMid rowsAt
  rw [← hr, List.take_succ_eq_append_getElem (by omega), List.getD_eq_getElem?_getD, List.getElem?_eq_getElem (by omega), List.append_assoc, Nat.sub_sub]
  rfl
/-- The row x of the single steps, as far as y. -/
def stepL (n : Nat) (M : List (List Int)) (x y : Nat) : List Int := fnL n (stp M y x)
theorem stepL_len (n : Nat) (M : List (List Int)) (x y : Nat) : (stepL n M x y).length = n := fnL_len _ _
theorem stepL_zero (n : Nat) (M : List (List Int)) (x : Nat) : List.replicate n 0 = stepL n M x 0 := by
  rw [zeroL]; exact fnL_congr n (fun j hj => by unfold stp; rw [if_neg (by omega)])
theorem stepL_at {n : Nat} {M : List (List Int)} {x y : Nat} (hy : y < n) : (stepL n M x y).getD y 0 = 0 := by
  unfold stepL; rw [fnL_at n _ hy]; unfold stp; rw [if_neg (by omega)]
theorem stepL_yes {n : Nat} {M : List (List Int)} {x y : Nat} (hy : y < n) (h : ent M y x < ent M x y) : (stepL n M x y).set y (ent M x y) = stepL n M x (y + 1) := by
  unfold stepL
  rw [fnL_set n _ hy]
  refine fnL_congr n (fun j hj => ?_)
  unfold stp
  by_cases e : (j : Int) = y
  · have : j = y := by omega
    subst this
    rw [if_pos rfl, if_pos (by omega)]
    simp [fw, h]
  · rw [if_neg e]
    by_cases h2 : (j : Int) < y
    · rw [if_pos h2, if_pos (by omega)]
    · rw [if_neg h2, if_neg (by omega)]
theorem stepL_no {n : Nat} {M : List (List Int)} {x y : Nat} (h : ¬ ent M y x < ent M x y) : stepL n M x y = stepL n M x (y + 1) := by
  unfold stepL
  refine fnL_congr n (fun j hj => ?_)
  unfold stp
  by_cases h2 : (j : Int) < y
  · rw [if_pos h2, if_pos (by omega)]
  · rw [if_neg h2]
    by_cases e : (j : Int) < (y + 1 : Nat)
    · rw [if_pos e]
      have : j = y := by omega
      subst this
      simp [fw, h]
    · rw [if_neg e]
theorem stepL_end {n : Nat} {M : List (List Int)} {x : Nat} (hx : x < n) : (fwM n M 0).getD x [] = stepL n M x n := by
  unfold fwM stepL
  rw [fnM_at n _ hx]
  refine fnL_congr n (fun j hj => ?_)
  unfold stp
  rw [if_pos (by omega)]
  simp
theorem fwM_len (n : Nat) (M : List (List Int)) (k : Nat) : (fwM n M k).length = n := fnM_len _ _
end Fm

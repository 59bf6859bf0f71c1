/-
  A sorted list that is 0, 1, 2 ..; pairs counted over alternatives: lists of ints alone, no Go text.
-/
import Derived.Test.YtbpenheomiejfaaOrdMath
namespace Fm
set_option linter.unusedVariables false

theorem perm_of_nodup_subset : ∀ (l m : List Int), l.Nodup → (∀ x ∈ l, x ∈ m) → l.length = m.length → l.Perm m := by
  intro l
  induction l with
  | nil => intro m _ _ hl; have := List.eq_nil_of_length_eq_zero hl.symm; subst this; exact List.Perm.refl _
  | cons a t ih =>
    intro m hn hs hl
    have ha := hs a (by simp)
    have hp := List.perm_cons_erase ha
    rw [List.nodup_cons] at hn
    have h1 : t.Perm (m.erase a) := by
      refine ih (m.erase a) hn.2 (fun x hx => ?_) ?_
      · have hne : x ≠ a := fun e => hn.1 (e ▸ hx)
        exact (List.mem_erase_of_ne hne).2 (hs x (by simp [hx]))
      · rw [List.length_erase_of_mem ha]; simp at hl; omega
    exact (List.Perm.cons a h1).trans hp.symm
theorem isOrd_perm {n : Nat} {l : List Int} (hl : l.length = n) (h : isOrd n l) : l.Perm (sides n) :=
  perm_of_nodup_subset l (sides n) h.2 (fun x hx => mem_sides.2 (h.1 x hx)) (by rw [hl, sides_len])
theorem isOrd_iff {n : Nat} {l : List Int} (hl : l.length = n) : isOrd n l ↔ l.Perm (sides n) := ⟨isOrd_perm hl, isOrd_of_perm⟩

theorem sides_getD {n j : Nat} (h : j < n) : (sides n).getD j 0 = j := by
  rw [getD_get (by rw [sides_len]; exact h)]; simp [sides]
theorem sides_sorted (n : Nat) : (sides n).Pairwise (fun a b => a ≤ b) := by
  rw [List.pairwise_iff_getElem]
  intro i j hi hj hij
  rw [sides_len] at hi hj
  rw [← getD_get (by rw [sides_len]; exact hi), ← getD_get (by rw [sides_len]; exact hj), sides_getD hi, sides_getD hj]
  omega
def sorted (l : List Int) : List Int := l.mergeSort fun x y => decide (x ≤ y)
theorem sorted_len (l : List Int) : (sorted l).length = l.length := by unfold sorted; exact List.length_mergeSort _
theorem sorted_sides {n : Nat} {l : List Int} : sorted l = sides n ↔ l.Perm (sides n) := by
  constructor
  · intro h
    rw [← h]
    exact (List.mergeSort_perm _ _).symm
  · intro h
    have hs : (sorted l).Pairwise (fun a b => a ≤ b) := by
      have := List.pairwise_mergeSort (le := fun x y : Int => decide (x ≤ y)) (fun a b c hab hbc => by simp at *; omega) (fun a b => by simp; omega) l
      exact this.imp (fun h => by simpa using h)
    refine List.Perm.eq_of_pairwise (fun a b _ _ hab hba => by omega) hs (sides_sorted n) ?_
    exact (List.mergeSort_perm _ _).trans h
/-- As far as the k-th, the list is 0, 1, 2 .. -/
theorem eq_sides {n : Nat} {l : List Int} (hl : l.length = n) (h : ∀ j, j < n → l.getD j 0 = j) : l = sides n := by
  apply List.ext_getElem
  · rw [hl, sides_len]
  · intro i h1 h2
    rw [← getD_get h1, ← getD_get h2, h i (by omega), sides_getD (by omega)]

/-- What plumeref.Between counts: the pairs y < x, x below k, that f and g rank differently. -/
def difs (f g : Int → Int) (x : Int) (t : List Int) : Nat := t.countP fun y => decide (f x < f y) != decide (g x < g y)
def btw (f g : Int → Int) : Nat → Nat
  | 0 => 0
  | k + 1 => btw f g k + difs f g k (sides k)
theorem difs_snoc (f g : Int → Int) (x y : Int) (t : List Int) : difs f g x (t ++ [y]) = difs f g x t + if (decide (f x < f y) != decide (g x < g y)) = true then 1 else 0 := by
  unfold difs
  rw [List.countP_append]
  by_cases h : (decide (f x < f y) != decide (g x < g y)) = true <;> simp [h]
theorem difs_le (f g : Int → Int) (x : Int) (t : List Int) : difs f g x t ≤ t.length := List.countP_le_length
theorem btw_le (f g : Int → Int) (k : Nat) : btw f g k ≤ k * k := by
  induction k with
  | zero => simp [btw]
  | succ k ih =>
    have h := difs_le f g k (sides k)
    rw [sides_len] at h
    simp only [btw]
    have h3 : (k + 1) * (k + 1) = k * k + k + k + 1 := by rw [Nat.succ_mul, Nat.mul_succ]; omega
    omega
theorem btw_tot (f g : Int → Int) (k : Nat) (hf : ∀ x ∈ sides k, ∀ y ∈ sides k, f x = f y → x = y) (hg : ∀ x ∈ sides k, ∀ y ∈ sides k, g x = g y → x = y) :
    btw g f k = tot (sides k) (fun x => tot (sides k) (fun y => dis f g x y)) := by
  induction k with
  | zero => rfl
  | succ k ih =>
    have hsub : ∀ x ∈ sides k, x ∈ sides (k + 1) := fun x hx => by rw [sides_succ]; exact List.mem_append_left _ hx
    have hk : (k : Int) ∈ sides (k + 1) := by rw [sides_succ]; simp
    have ih := ih (fun x hx y hy => hf x (hsub x hx) y (hsub y hy)) (fun x hx y hy => hg x (hsub x hx) y (hsub y hy))
    simp only [btw]
    rw [ih, sides_succ, tot_append, tot_cons, tot_nil]
    have e1 : tot (sides k) (fun x => tot (sides k ++ [(k : Int)]) (fun y => dis f g x y)) = tot (sides k) (fun x => tot (sides k) (fun y => dis f g x y)) + tot (sides k) (fun x => dis f g x k) := by
      rw [← tot_add]
      exact tot_congr (fun x _ => by rw [tot_append, tot_cons, tot_nil]; omega)
    have e2 : dis f g k k = 0 := by unfold dis; rw [if_neg (by omega)]
    rw [e1, tot_append, tot_cons, tot_nil, e2]
    have e3 : difs g f k (sides k) = tot (sides k) (fun x => dis f g x k) + tot (sides k) (fun y => dis f g k y) := by
      unfold difs
      rw [countP_tot, ← tot_add]
      refine tot_congr (fun y hy => ?_)
      have hne : y ≠ k := fun e => by have := (mem_sides.1 hy).2; omega
      have h1 : f y ≠ f k := fun e => hne (hf y (hsub y hy) k hk e)
      have h2 : g y ≠ g k := fun e => hne (hg y (hsub y hy) k hk e)
      unfold dis
      by_cases a : g k < g y <;> by_cases b : f k < f y
      · rw [if_neg (by simp [a, b]), if_neg (by omega), if_neg (by omega)]
      · rw [if_pos (by simp [a, b]), if_neg (by omega), if_pos (by omega)]
      · rw [if_pos (by simp [a, b]), if_pos (by omega), if_neg (by omega)]
      · rw [if_neg (by simp [a, b]), if_neg (by omega), if_neg (by omega)]
    rw [e3]
    omega
theorem btw_inv {n : Nat} {p q : List Int} (hp : p.Perm (sides n)) (hq : q.Perm (sides n)) : btw (pos p) (pos q) n = inv p q := by
  have np := hp.nodup_iff.2 (sides_nodup n)
  have nq := hq.nodup_iff.2 (sides_nodup n)
  rw [inv_on np hp]
  exact btw_tot (pos q) (pos p) n (fun x hx y hy e => pos_inj nq (hq.mem_iff.2 hx) (hq.mem_iff.2 hy) e) (fun x hx y hy e => pos_inj np (hp.mem_iff.2 hx) (hp.mem_iff.2 hy) e)
theorem inv_le {n : Nat} {p q : List Int} (hp : p.length = n) (hn : n ≤ 6) : inv p q ≤ 36 := by
  have h := invTo_le (atTo q q.length) p p.length
  rw [hp] at h
  have h2 : n * n ≤ 6 * 6 := Nat.mul_le_mul hn hn
  unfold inv; rw [hp]; omega
theorem map_set_at {n : Nat} (p : List Int) (k : Nat) {i : Nat} (hi : i < n) (hx : p.getD k 0 = i) : ((sides n).map (atTo p k)).set i (k : Int) = (sides n).map (atTo p (k + 1)) := by
  apply List.ext_getElem
  · simp
  · intro j h1 h2
    have hj : j < n := by simpa [sides_len] using h2
    rw [List.getElem_set, List.getElem_map, List.getElem_map, ← getD_get (by rw [sides_len]; exact hj), sides_getD hj]
    simp only [atTo]
    rw [hx]
    by_cases e : i = j
    · rw [if_pos e, if_pos (by omega)]
    · rw [if_neg e, if_neg (by omega)]
theorem btw_bound {f g : Int → Int} {k n : Nat} (hk : k ≤ n) (h6 : n ≤ 6) : btw f g k ≤ 36 := by
  have h := btw_le f g k
  have h2 : k * k ≤ 6 * 6 := Nat.mul_le_mul (by omega) (by omega)
  omega
end Fm

/-
  What package tally counts: lists of ints alone, no Go text.
-/
import Derived.Test.YtbpenheomiejfaaRefMath
namespace Fm
set_option linter.unusedVariables false

/-- How many of V rank x before y. -/
def cnt (V : List (List Int)) (x y : Int) : Nat := V.countP fun p => decide (pos p x < pos p y)
theorem cnt_le (V : List (List Int)) (x y : Int) : cnt V x y ≤ V.length := List.countP_le_length
theorem cnt_snoc (V : List (List Int)) (p : List Int) (x y : Int) : cnt (V ++ [p]) x y = cnt V x y + if pos p x < pos p y then 1 else 0 := by
  unfold cnt
  rw [List.countP_append]
  by_cases h : pos p x < pos p y <;> simp [h]
def duelRow (n : Nat) (V : List (List Int)) (x : Int) : List Int := (sides n).map fun y => (cnt V x y : Int)
def duelsM (n : Nat) (V : List (List Int)) : List (List Int) := (sides n).map fun x => duelRow n V x
/-- A row of which the first j are counted, and the j-th over W. -/
def partRow (n : Nat) (V W : List (List Int)) (x : Int) (j : Nat) : List Int := (sides n).map fun (y : Int) => if y < (j : Int) then (cnt V x y : Int) else if y = (j : Int) then (cnt W x y : Int) else 0
/-- A matrix of which k rows are whole, the next one is given, and the others are not there yet. -/
def partM (n : Nat) (V : List (List Int)) (k : Nat) (row : List Int) : List (List Int) := (sides k).map (fun x => duelRow n V x) ++ row :: List.replicate (n - (k + 1)) []
def partM0 (n : Nat) (V : List (List Int)) (k : Nat) : List (List Int) := (sides k).map (fun x => duelRow n V x) ++ List.replicate (n - k) []

theorem map_sides_getD (n : Nat) (f : Int → Int) {j : Nat} (h : j < n) : ((sides n).map f).getD j 0 = f j := by
  rw [getD_get (by rw [List.length_map, sides_len]; exact h), List.getElem_map, ← getD_get (by rw [sides_len]; exact h), sides_getD h]
theorem map_sides_set (n : Nat) (f g : Int → Int) (j : Nat) (hj : j < n) (z : Int) (hz : g j = z) (h : ∀ y : Int, y ≠ j → f y = g y) : ((sides n).map f).set j z = (sides n).map g := by
  apply List.ext_getElem
  · simp
  · intro i h1 h2
    have hi : i < n := by simpa [sides_len] using h2
    rw [List.getElem_set, List.getElem_map, List.getElem_map, ← getD_get (by rw [sides_len]; exact hi), sides_getD hi]
    by_cases e : j = i
    · subst e; rw [if_pos rfl, hz]
    · rw [if_neg e, h i (by omega)]
theorem map_sides_congr (n : Nat) {f g : Int → Int} (h : ∀ j : Nat, j < n → f j = g j) : (sides n).map f = (sides n).map g := by
  apply List.map_congr_left
  intro x hx
  have hx := mem_sides.1 hx
  have := h x.toNat (by omega)
  rwa [show ((x.toNat : Nat) : Int) = x by omega] at this
theorem partRow_len (n : Nat) (V W : List (List Int)) (x : Int) (j : Nat) : (partRow n V W x j).length = n := by simp [partRow, sides_len]
theorem partRow_zero (n : Nat) (V : List (List Int)) (x : Int) : List.replicate n 0 = partRow n V [] x 0 := by
  unfold partRow
  apply List.ext_getElem
  · simp [sides_len]
  · intro i h1 h2
    have hi : i < n := by simpa using h1
    rw [List.getElem_replicate, List.getElem_map, ← getD_get (by rw [sides_len]; exact hi), sides_getD hi]
    rw [if_neg (by omega)]
    split <;> simp [cnt]
theorem partRow_at (n : Nat) (V W : List (List Int)) (x : Int) {j : Nat} (h : j < n) : (partRow n V W x j).getD j 0 = cnt W x j := by
  unfold partRow
  rw [map_sides_getD n _ h, if_neg (by omega), if_pos rfl]
theorem partRow_set (n : Nat) (V W W' : List (List Int)) (x : Int) {j : Nat} (h : j < n) : (partRow n V W x j).set j (cnt W' x j) = partRow n V W' x j := by
  unfold partRow
  refine map_sides_set n _ _ j h _ ?_ (fun y hy => ?_)
  · show (if (j : Int) < j then _ else if (j : Int) = j then _ else _) = _
    rw [if_neg (by omega), if_pos rfl]
  · by_cases h1 : y < j
    · rw [if_pos h1, if_pos h1]
    · rw [if_neg h1, if_neg h1, if_neg hy, if_neg hy]
theorem partRow_congr (n : Nat) (V W W' : List (List Int)) (x : Int) (j : Nat) (h : cnt W x j = cnt W' x j) : partRow n V W x j = partRow n V W' x j := by
  unfold partRow
  apply List.map_congr_left
  intro y _
  by_cases h1 : y < (j : Int)
  · rw [if_pos h1, if_pos h1]
  · by_cases h2 : y = (j : Int)
    · rw [if_neg h1, if_neg h1, if_pos h2, if_pos h2, h2, h]
    · rw [if_neg h1, if_neg h1, if_neg h2, if_neg h2]
theorem partRow_next (n : Nat) (V : List (List Int)) (x : Int) (j : Nat) : partRow n V V x j = partRow n V [] x (j + 1) := by
  unfold partRow
  refine map_sides_congr n (fun y hy => ?_)
  by_cases h1 : (y : Int) < j
  · rw [if_pos h1, if_pos (by omega)]
  · by_cases h2 : (y : Int) = j
    · rw [if_neg h1, if_pos h2, if_pos (by omega)]
    · rw [if_neg h1, if_neg h2, if_neg (by omega)]
      split <;> simp [cnt]
theorem partRow_end (n : Nat) (V : List (List Int)) (x : Int) : partRow n V [] x n = duelRow n V x := by
  unfold partRow duelRow
  refine map_sides_congr n (fun y hy => ?_)
  rw [if_pos (by omega)]
theorem partM_len (n : Nat) (V : List (List Int)) (k : Nat) (row : List Int) (h : k < n) : (partM n V k row).length = n := by simp [partM, sides_len]; omega
theorem partM0_len (n : Nat) (V : List (List Int)) (k : Nat) (h : k ≤ n) : (partM0 n V k).length = n := by simp [partM0, sides_len]; omega
theorem partM_getD (n : Nat) (V : List (List Int)) (k : Nat) (row : List Int) : (partM n V k row).getD k [] = row := by
  unfold partM
  rw [List.getD_eq_getElem?_getD, List.getElem?_append_right (by simp [sides_len])]
  simp [sides_len]
theorem partM_set (n : Nat) (V : List (List Int)) (k : Nat) (row row' : List Int) : (partM n V k row).set k row' = partM n V k row' := by
  unfold partM
  rw [List.set_append_right _ _ (by simp [sides_len])]
  simp [sides_len]
theorem partM0_set (n : Nat) (V : List (List Int)) (k : Nat) (row : List Int) (h : k < n) : (partM0 n V k).set k row = partM n V k row := by
  unfold partM0 partM
  rw [List.set_append_right _ _ (by simp [sides_len]), show n - k = (n - (k + 1)) + 1 by omega, List.replicate_succ]
  simp [sides_len]
theorem partM_done (n : Nat) (V : List (List Int)) (k : Nat) : partM n V k (duelRow n V k) = partM0 n V (k + 1) := by
  unfold partM partM0
  rw [sides_succ, List.map_append, List.append_assoc]
  rfl
theorem partM0_end (n : Nat) (V : List (List Int)) : partM0 n V n = duelsM n V := by
  unfold partM0 duelsM
  rw [Nat.sub_self, List.replicate_zero, List.append_nil]
theorem partM0_zero (n : Nat) (V : List (List Int)) : List.replicate n [] = partM0 n V 0 := by simp [partM0, sides]

/-- How many of V have x first; the points of x. -/
def fst1 (V : List (List Int)) (x : Int) : Nat := V.countP fun p => decide (pos p x = 0)
def pts (n : Nat) : List (List Int) → Int → Int
  | [], _ => 0
  | p :: V, x => ((n : Int) - 1 - pos p x) + pts n V x
theorem fst1_snoc (V : List (List Int)) (p : List Int) (x : Int) : fst1 (V ++ [p]) x = fst1 V x + if pos p x = 0 then 1 else 0 := by
  unfold fst1
  rw [List.countP_append]
  by_cases h : pos p x = 0 <;> simp [h]
theorem fst1_le (V : List (List Int)) (x : Int) : fst1 V x ≤ V.length := List.countP_le_length
theorem pts_snoc (n : Nat) (V : List (List Int)) (p : List Int) (x : Int) : pts n (V ++ [p]) x = pts n V x + ((n : Int) - 1 - pos p x) := by
  induction V with
  | nil => simp [pts]
  | cons q V ih => simp only [List.cons_append, pts]; rw [ih]; omega
theorem pos_range {n : Nat} {p : List Int} (hp : p.Perm (sides n)) {x : Nat} (hx : x < n) : 0 ≤ pos p x ∧ pos p x < n := by
  have hm : (x : Int) ∈ p := hp.mem_iff.2 (mem_sides.2 ⟨by omega, by omega⟩)
  obtain ⟨k, hk, _, h⟩ := pos_mem (hp.nodup_iff.2 (sides_nodup n)) hm
  have := hp.length_eq
  rw [sides_len] at this
  omega
theorem pts_range {n : Nat} {V : List (List Int)} (hV : ∀ p ∈ V, p.Perm (sides n)) {x : Nat} (hx : x < n) : 0 ≤ pts n V x ∧ pts n V x ≤ V.length * n := by
  induction V with
  | nil => simp [pts]
  | cons p V ih =>
    have h1 := pos_range (hV p (by simp)) hx
    have h2 := ih (fun q hq => hV q (by simp [hq]))
    simp only [pts, List.length_cons]
    have h3 : ((V.length + 1 : Nat) : Int) * n = V.length * n + n := by rw [Int.natCast_add, Int.add_mul]; simp
    omega
def firstsL (n : Nat) (V : List (List Int)) : List Int := (sides n).map fun x => (fst1 V x : Int)
def pointsL (n : Nat) (V : List (List Int)) : List Int := (sides n).map fun x => pts n V x
/-- Of which the first j are counted over W already, the others over V. -/
def mixL (n : Nat) (f g : Int → Int) (j : Nat) : List Int := (sides n).map fun (x : Int) => if x < (j : Int) then g x else f x
theorem mixL_len (n : Nat) (f g : Int → Int) (j : Nat) : (mixL n f g j).length = n := by simp [mixL, sides_len]
theorem mixL_zero (n : Nat) (f g : Int → Int) : mixL n f g 0 = (sides n).map f := map_sides_congr n (fun j hj => by rw [if_neg (by omega)])
theorem mixL_end (n : Nat) (f g : Int → Int) : mixL n f g n = (sides n).map g := map_sides_congr n (fun j hj => by rw [if_pos (by omega)])
theorem mixL_at (n : Nat) (f g : Int → Int) {j : Nat} (h : j < n) : (mixL n f g j).getD j 0 = f j := by
  unfold mixL; rw [map_sides_getD n _ h, if_neg (by omega)]
theorem mixL_set (n : Nat) (f g : Int → Int) {j : Nat} (h : j < n) : (mixL n f g j).set j (g j) = mixL n f g (j + 1) := by
  unfold mixL
  refine map_sides_set n _ _ j h _ ?_ (fun y hy => ?_)
  · show (if (j : Int) < ((j + 1 : Nat) : Int) then _ else _) = _
    rw [if_pos (by omega)]
  · by_cases h1 : y < (j : Int)
    · rw [if_pos h1, if_pos (by omega)]
    · rw [if_neg h1, if_neg (by omega)]
theorem mixL_same (n : Nat) (f g : Int → Int) {j : Nat} (h : f j = g j) : mixL n f g j = mixL n f g (j + 1) := by
  unfold mixL
  apply List.map_congr_left
  intro y _
  by_cases h1 : y < (j : Int)
  · rw [if_pos h1, if_pos (by omega)]
  · by_cases h2 : y = (j : Int)
    · rw [if_neg h1, if_pos (by omega), h2, h]
    · rw [if_neg h1, if_neg (by omega)]
end Fm

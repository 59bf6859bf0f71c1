/-
  Single-peaked orders by their places along the line, and the one in the middle of all first ones laid along the line: lists of ints alone, no Go text.
-/
import Derived.Test.YtcjhgkmodfkmoaaPeakMath
namespace Fm
set_option linter.unusedVariables false

/-- The places in p of the alternatives of the line. -/
def posL (line p : List Int) : List Int := line.map (pos p)
/-- One to the left of i and one to the right of i are smaller than the i-th. -/
def dipL (l : List Int) (i : Nat) : Bool := (l.take i).any fun y => decide (y < l.getD i 0)
def dipR (l : List Int) (i : Nat) : Bool := (l.drop (i + 1)).any fun y => decide (y < l.getD i 0)
theorem posL_len (line p : List Int) : (posL line p).length = line.length := by unfold posL; rw [List.length_map]
theorem posL_at {line p : List Int} {i : Nat} (h : i < line.length) : (posL line p).getD i 0 = pos p (line.getD i 0) := by
  rw [getD_get (by rw [posL_len]; exact h), getD_get h]; unfold posL; rw [List.getElem_map]
theorem dipL_iff {l : List Int} {i : Nat} (hi : i < l.length) : dipL l i = true ↔ ∃ j, j < i ∧ l.getD j 0 < l.getD i 0 := by
  unfold dipL
  rw [List.any_eq_true]
  constructor
  · rintro ⟨y, hy, h⟩
    obtain ⟨j, hj, rfl⟩ := List.getElem_of_mem hy
    rw [List.length_take] at hj
    rw [List.getElem_take] at h
    exact ⟨j, by omega, by rw [getD_get (show j < l.length by omega)]; exact of_decide_eq_true h⟩
  · rintro ⟨j, hj, h⟩
    refine ⟨l.getD j 0, ?_, decide_eq_true h⟩
    rw [List.mem_iff_getElem]
    exact ⟨j, by rw [List.length_take]; omega, by rw [List.getElem_take, getD_get (by omega)]⟩
theorem dipR_iff {l : List Int} {i : Nat} : dipR l i = true ↔ ∃ k, i < k ∧ k < l.length ∧ l.getD k 0 < l.getD i 0 := by
  unfold dipR
  rw [List.any_eq_true]
  constructor
  · rintro ⟨y, hy, h⟩
    obtain ⟨j, hj, rfl⟩ := List.getElem_of_mem hy
    rw [List.length_drop] at hj
    rw [List.getElem_drop] at h
    exact ⟨i + 1 + j, by omega, by omega, by rw [getD_get (show i + 1 + j < l.length by omega)]; exact of_decide_eq_true h⟩
  · rintro ⟨k, hk, hl, h⟩
    refine ⟨l.getD k 0, ?_, decide_eq_true h⟩
    rw [List.mem_iff_getElem]
    refine ⟨k - (i + 1), by rw [List.length_drop]; omega, ?_⟩
    rw [List.getElem_drop, getD_get hl]
    congr 1
    omega
theorem dip_yes {line p : List Int} {i : Nat} (hi : i < line.length) (h1 : dipL (posL line p) i = true) (h2 : dipR (posL line p) i = true) : alongB line p = false := by
  have hl := posL_len line p
  obtain ⟨j, hj, hjl⟩ := (dipL_iff (by omega)).1 h1
  obtain ⟨k, hk, hkl, hkk⟩ := dipR_iff.1 h2
  rw [posL_at hi, posL_at (by omega)] at hjl hkk
  exact along_not hj hk (by omega) (decide_eq_true ⟨hjl, hkk⟩)
theorem dip_no {line p : List Int} (h : ∀ i, i < line.length → (dipL (posL line p) i && dipR (posL line p) i) = false) : alongB line p = true := by
  have hl := posL_len line p
  rw [along_iff]
  intro i j k a b c
  refine decide_eq_false fun ⟨h1, h2⟩ => ?_
  have := h j (by omega)
  rw [(dipL_iff (by omega)).2 ⟨i, a, by rw [posL_at (by omega), posL_at (by omega)]; exact h1⟩, dipR_iff.2 ⟨k, b, by omega, by rw [posL_at c, posL_at (by omega)]; exact h2⟩] at this
  cases this

/-- Each of the list as often as it is first. -/
def sprL (V : List (List Int)) : List Int → List Int
  | [] => []
  | x :: t => List.replicate (fst1 V x) x ++ sprL V t
theorem sprL_append (V : List (List Int)) (s t : List Int) : sprL V (s ++ t) = sprL V s ++ sprL V t := by
  induction s with
  | nil => rfl
  | cons x s ih => rw [List.cons_append, sprL, sprL, ih, List.append_assoc]
theorem sprL_snoc (V : List (List Int)) (s : List Int) (x : Int) : sprL V (s ++ [x]) = sprL V s ++ List.replicate (fst1 V x) x := by
  rw [sprL_append, sprL, sprL, List.append_nil]
theorem sprL_len (V : List (List Int)) (s : List Int) : (sprL V s).length = tot s (fst1 V) := by
  induction s with
  | nil => rfl
  | cons x s ih => rw [sprL, List.length_append, List.length_replicate, ih, tot_cons]
theorem spr_mid {V : List (List Int)} {N : Nat} : ∀ (t : List Int) (s : Nat), 2 * s < N → N ≤ 2 * (s + tot t (fst1 V)) → (sprL V t).getD ((N - 1) / 2 - s) 0 = midF V N s t := by
  intro t
  induction t with
  | nil => intro s h1 h2; rw [tot_nil] at h2; omega
  | cons x t ih =>
    intro s h1 h2
    rw [tot_cons] at h2
    rw [sprL, midF]
    by_cases q : N ≤ 2 * (s + fst1 V x)
    · rw [if_pos q, getD_get (by rw [List.length_append, List.length_replicate]; omega), List.getElem_append_left (by rw [List.length_replicate]; omega), List.getElem_replicate]
    · rw [if_neg q]
      have := ih (s + fst1 V x) (by omega) (by omega)
      rw [← this]
      have hl := sprL_len V t
      rw [getD_get (by rw [List.length_append, List.length_replicate]; omega), getD_get (by omega), List.getElem_append_right (by rw [List.length_replicate]; omega)]
      congr 1
      rw [List.length_replicate]
      omega
theorem spr_line {n : Nat} {line : List Int} {V : List (List Int)} (hl : line.Perm (sides n)) (h1 : 1 ≤ n) (hV : ∀ p ∈ V, p.Perm (sides n)) (hne : V.length ≠ 0) : (sprL V line).length = V.length ∧ (sprL V line).getD ((V.length - 1) / 2) 0 = midL line V := by
  have e : tot line (fst1 V) = V.length := by rw [tot_perm hl]; exact sum_firsts h1 hV
  refine ⟨by rw [sprL_len, e], ?_⟩
  have := spr_mid (V := V) (N := V.length) line 0 (by omega) (by omega)
  unfold midL
  rw [← this]
  rfl
end Fm

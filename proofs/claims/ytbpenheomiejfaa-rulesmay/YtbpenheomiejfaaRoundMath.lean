/-
  The rounds as the program counts them: places in the list of those left, the first of them on a ballot: lists of ints alone, no Go text.
-/
import Derived.Test.YtbpenheomiejfaaRuleMath
namespace Fm
set_option linter.unusedVariables false

/-- Of the first i of those left: the place of the last one with the fewest, and how many. -/
def wkTo (V : List (List Int)) (left : List Int) : Nat → Nat × Int
  | 0 => (0, V.length)
  | i + 1 => if (tops V left (left.getD i 0) : Int) ≤ (wkTo V left i).2 then (i, (tops V left (left.getD i 0) : Int)) else wkTo V left i
theorem wk_bd (V : List (List Int)) (left : List Int) (i : Nat) : 0 ≤ (wkTo V left i).2 ∧ (wkTo V left i).2 ≤ V.length := by
  induction i with
  | zero => simp [wkTo]
  | succ i ih =>
    have := tops_le V left (left.getD i 0)
    simp only [wkTo]
    split
    · exact ⟨Int.natCast_nonneg _, by show ((tops V left (left.getD i 0) : Nat) : Int) ≤ _; omega⟩
    · exact ih
theorem wk_out (V : List (List Int)) (left : List Int) (h0 : ∀ x ∈ left, 0 ≤ x) : ∀ i, i < left.length → outTo V left (i + 1) = (left.getD (wkTo V left (i + 1)).1 0, (wkTo V left (i + 1)).2) ∧ (wkTo V left (i + 1)).1 < i + 1 := by
  intro i
  induction i with
  | zero =>
    intro h
    have ht : (tops V left (left.getD 0 0) : Int) ≤ V.length := by have := tops_le V left (left.getD 0 0); omega
    have e1 : outTo V left 1 = (left.getD 0 0, (tops V left (left.getD 0 0) : Int)) := by
      rw [outTo]
      exact if_pos (Or.inl (show ((-1 : Int), (0 : Int)).1 < 0 by decide))
    have e2 : wkTo V left 1 = (0, (tops V left (left.getD 0 0) : Int)) := by
      rw [wkTo]
      exact if_pos ht
    rw [Nat.zero_add, e1, e2]
    exact ⟨rfl, Nat.lt_succ_self 0⟩
  | succ i ih =>
    intro h
    obtain ⟨e1, e2⟩ := ih (by omega)
    have hn := h0 _ (getD_mem left (wkTo V left (i + 1)).1 (by omega))
    rw [outTo, wkTo, e1]
    by_cases hc : (tops V left (left.getD (i + 1) 0) : Int) ≤ (wkTo V left (i + 1)).2
    · rw [if_pos hc, if_pos (Or.inr hc)]
      exact ⟨rfl, by show i + 1 < i + 1 + 1; omega⟩
    · rw [if_neg hc, if_neg (by
        rintro (h | h)
        · simp only at h; omega
        · exact hc h)]
      exact ⟨rfl, by omega⟩
theorem erase_ne {l : List Int} (hn : l.Nodup) : ∀ {k : Nat}, k < l.length → l.eraseIdx k = l.filter fun y => !(y == l.getD k 0) := by
  induction l with
  | nil => intro k hk; simp at hk
  | cons a l ih =>
    rw [List.nodup_cons] at hn
    intro k hk
    cases k with
    | zero =>
      rw [List.eraseIdx_cons_zero, List.filter_cons]
      have e : l.filter (fun y => !(y == a)) = l := by
        rw [List.filter_eq_self]
        intro y hy
        have : y ≠ a := fun e => hn.1 (e ▸ hy)
        simpa using this
      simp [e]
    | succ k =>
      have hk' : k < l.length := by simpa using hk
      have hm : l.getD k 0 ∈ l := getD_mem l k hk'
      have hne : a ≠ l.getD k 0 := fun e => hn.1 (e ▸ hm)
      rw [List.eraseIdx_cons_succ, ih hn.2 hk', List.filter_cons, List.getD_cons_succ]
      rw [beq_eq_false_iff_ne.2 hne]
      rfl
theorem left_erase (V : List (List Int)) (n : Nat) (h1 : 1 ≤ n) {j : Nat} (hj : j < n - 1) : (wkTo V (leftTo V n j) (n - j)).1 < n - j ∧ (leftTo V n j).eraseIdx (wkTo V (leftTo V n j) (n - j)).1 = leftTo V n (j + 1) := by
  have h := left_ok V n h1 j (by omega)
  have hl := h.len
  obtain ⟨m, hm⟩ : ∃ m, n - j = m + 1 := ⟨n - j - 1, by omega⟩
  have hw := wk_out V (leftTo V n j) (fun x hx => (h.rng x hx).1) m (by omega)
  rw [hm]
  refine ⟨hw.2, ?_⟩
  rw [erase_ne h.nodup (by omega)]
  show _ = (leftTo V n j).filter fun x => !(x == outOf V (leftTo V n j))
  unfold outOf
  rw [hl, hm, hw.1]
theorem only_first {left p : List Int} {i : Nat} (hi : i < p.length) (h1 : decide (p.getD i 0 ∈ left) = true) (h2 : ∀ t, t < i → decide (p.getD t 0 ∈ left) = false) : (onlyIn left p).getD 0 0 = p.getD i 0 := by
  have e : p = p.take i ++ p.getD i 0 :: p.drop (i + 1) := by
    rw [getD_get hi, ← List.drop_eq_getElem_cons hi, List.take_append_drop]
  have e2 : (p.take i).filter (fun y => decide (y ∈ left)) = [] := by
    rw [List.filter_eq_nil_iff]
    intro y hy
    obtain ⟨t, ht, rfl⟩ := List.getElem_of_mem hy
    have htl : t < i := by rw [List.length_take] at ht; omega
    have := h2 t htl
    rw [getD_get (by omega)] at this
    rw [List.getElem_take, this]
    decide
  unfold onlyIn
  generalize p.getD i 0 = x at *
  rw [e, List.filter_append, e2, List.filter_cons, h1]
  rfl

theorem tchk_tab {n : Nat} {M : List (List Int)} (h1 : 1 ≤ n) (h6 : n ≤ 6) (hl : M.length = n) (hr : ∀ l ∈ M, l.length = n) (hb : ∀ x y, 0 ≤ ent M x y ∧ ent M x y ≤ 30) (hd : ∀ x, x < n → ent M x x = 0) : tchk M = 0 := by
  subst hl
  unfold tchk
  rw [if_neg (by omega), if_neg, if_pos (show diagOk M from hd)]
  rw [Classical.not_not, firstErr_zero]
  intro r hrm
  rw [rowErr_zero]
  refine ⟨hr r hrm, fun x hx => ?_⟩
  obtain ⟨i, hi, rfl⟩ := List.getElem_of_mem hrm
  obtain ⟨j, hj, rfl⟩ := List.getElem_of_mem hx
  have := hb i j
  unfold ent at this
  rw [List.getD_eq_getElem?_getD (l := M), List.getElem?_eq_getElem hi, Option.getD_some, List.getD_eq_getElem?_getD, List.getElem?_eq_getElem hj] at this
  exact this
theorem tchk_duels {n : Nat} (h1 : 1 ≤ n) (h6 : n ≤ 6) {V : List (List Int)} (hV : V.length ≤ 30) : tchk (duelsM n V) = 0 :=
  tchk_tab h1 h6 (duelsM_len n V) (fun l hl => duelsM_rows hl) (ent_duels_bd n V hV) fun x hx => by
    rw [ent_duels n V hx hx]
    unfold cnt
    simp
/-- What the alternatives have, by rules 1 to 4. -/
def scoreL (rule : Int) (n : Nat) (V : List (List Int)) : List Int :=
  if rule = 1 then firstsL n V else if rule = 2 then pointsL n V else if rule = 3 then winsL n (duelsM n V) else (worstL n (duelsM n V)).map fun x => -x
theorem scoreL_len (rule : Int) (n : Nat) (V : List (List Int)) : (scoreL rule n V).length = n := by
  unfold scoreL
  split
  · simp [firstsL, sides_len]
  · split
    · simp [pointsL, sides_len]
    · split
      · simp [winsL, sides_len]
      · simp [worstL, sides_len]
theorem winL_score {rule : Int} (h1 : 1 ≤ rule) (h4 : rule ≤ 4) (n : Nat) (V : List (List Int)) : winL rule n V = greatest (scoreL rule n V) := by
  unfold winL scoreL
  by_cases e1 : rule = 1
  · rw [if_pos e1, if_pos e1]
  · rw [if_neg e1, if_neg e1]
    by_cases e2 : rule = 2
    · rw [if_pos e2, if_pos e2]
    · rw [if_neg e2, if_neg e2]
      by_cases e3 : rule = 3
      · rw [if_pos e3, if_pos e3]
      · rw [if_neg e3, if_neg e3, if_pos (by omega)]
/-- The first k negated. -/
def negTo (l : List Int) (k : Nat) : List Int := (l.take k).map (fun x => -x) ++ l.drop k
theorem negTo_len (l : List Int) (k : Nat) : (negTo l k).length = l.length := by
  unfold negTo; simp; omega
theorem negTo_at (l : List Int) {k : Nat} (h : k < l.length) : (negTo l k).getD k 0 = l.getD k 0 := by
  unfold negTo
  rw [List.getD_eq_getElem?_getD, List.getElem?_append_right (by simp; omega), List.getD_eq_getElem?_getD]
  simp [Nat.min_eq_left (Nat.le_of_lt h)]
theorem negTo_set (l : List Int) {k : Nat} (h : k < l.length) : (negTo l k).set k (-(l.getD k 0)) = negTo l (k + 1) := by
  unfold negTo
  have e : l.drop k = l.getD k 0 :: l.drop (k + 1) := by
    rw [List.drop_eq_getElem_cons h, getD_get h]
  rw [e, List.set_append_right _ _ (by simp; omega), take_succ_getD l k h, List.map_append]
  have e2 : k - ((l.take k).map fun x => -x).length = 0 := by simp; omega
  rw [e2]
  simp
theorem negTo_zero (l : List Int) : negTo l 0 = l := by simp [negTo]
theorem negTo_end (l : List Int) : negTo l l.length = l.map (fun x => -x) := by simp [negTo]
theorem worstTo_le30 {M : List (List Int)} (hb : ∀ x y, 0 ≤ ent M x y ∧ ent M x y ≤ 30) (x j : Nat) : worstTo M x j ≤ 30 := by
  induction j with
  | zero => simp [worstTo]
  | succ j ih =>
    simp only [worstTo]
    have := hb x j
    have := hb j x
    omega
end Fm

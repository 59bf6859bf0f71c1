/-
  The rules of a vote: who has the most, and who is left at the end of the rounds: lists of ints alone, no Go text.
-/
import Derived.Test.YtbpenheomiejfaaWinSetMath
namespace Fm
set_option linter.unusedVariables false

def most (l : List Int) : Int := l.foldl max (l.headD 0)
def greatTo (l : List Int) (k : Nat) : List Int := ((List.range k).filter fun i => decide (l.getD i 0 = most l)).map fun (i : Nat) => (i : Int)
/-- The places of the greatest. -/
def greatest (l : List Int) : List Int := greatTo l l.length
theorem greatTo_succ (l : List Int) (k : Nat) : greatTo l (k + 1) = greatTo l k ++ if l.getD k 0 = most l then [(k : Int)] else [] := by
  unfold greatTo
  rw [List.range_succ, List.filter_append, List.map_append]
  congr 1
  by_cases h : l.getD k 0 = most l
  · rw [if_pos h, List.filter_cons, decide_eq_true h]; rfl
  · rw [if_neg h, List.filter_cons, decide_eq_false h]; rfl
theorem greatTo_len (l : List Int) (k : Nat) : (greatTo l k).length ≤ k := by
  unfold greatTo; rw [List.length_map]; exact Nat.le_trans (List.length_filter_le _ _) (by simp)

/-- The ballot p without those that are out. -/
def onlyIn (left p : List Int) : List Int := p.filter fun y => decide (y ∈ left)
def tops (V : List (List Int)) (left : List Int) (x : Int) : Nat := V.countP fun p => decide ((onlyIn left p).getD 0 0 = x)
theorem tops_le (V : List (List Int)) (left : List Int) (x : Int) : tops V left x ≤ V.length := List.countP_le_length
theorem tops_succ (V : List (List Int)) (left : List Int) (x : Int) {t : Nat} (h : t < V.length) : tops (V.take (t + 1)) left x = tops (V.take t) left x + if (onlyIn left (V.getD t [])).getD 0 0 = x then 1 else 0 := by
  unfold tops
  rw [List.take_succ_eq_append_getElem h, List.countP_append, List.getD_eq_getElem?_getD (l := V), List.getElem?_eq_getElem h]
  congr 1
  rw [List.countP_singleton]
  by_cases hc : (onlyIn left ((some V[t]).getD [])).getD 0 0 = x
  · rw [if_pos hc]; simp at hc ⊢; exact hc
  · rw [if_neg hc]; simp at hc ⊢; exact hc
/-- Of the first j of those left: the last one with the fewest, and how many. -/
def outTo (V : List (List Int)) (left : List Int) : Nat → Int × Int
  | 0 => (-1, 0)
  | j + 1 => if (outTo V left j).1 < 0 ∨ (tops V left (left.getD j 0) : Int) ≤ (outTo V left j).2 then (left.getD j 0, (tops V left (left.getD j 0) : Int)) else outTo V left j
def outOf (V : List (List Int)) (left : List Int) : Int := (outTo V left left.length).1
def leftTo (V : List (List Int)) (n : Nat) : Nat → List Int
  | 0 => sides n
  | j + 1 => (leftTo V n j).filter fun x => !(x == outOf V (leftTo V n j))
/-- Who is left at the end. -/
def lastOf (n : Nat) (V : List (List Int)) : Int := (leftTo V n (n - 1)).getD 0 0

theorem outTo_mem (V : List (List Int)) (left : List Int) (h0 : ∀ x ∈ left, 0 ≤ x) {j : Nat} (hj : j < left.length) : (outTo V left (j + 1)).1 ∈ left := by
  induction j with
  | zero =>
    rw [outTo]
    split
    · exact getD_mem left 0 hj
    · rename_i h
      exact absurd (Or.inl (show ((-1 : Int), (0 : Int)).1 < 0 by decide)) h
  | succ j ih =>
    have ih := ih (by omega)
    rw [outTo]
    split
    · exact getD_mem left (j + 1) hj
    · exact ih
theorem outTo_bd (V : List (List Int)) (left : List Int) (j : Nat) : 0 ≤ (outTo V left j).2 ∧ (outTo V left j).2 ≤ V.length := by
  induction j with
  | zero => simp [outTo]
  | succ j ih =>
    rw [outTo]
    split
    · have := tops_le V left (left.getD j 0)
      exact ⟨Int.natCast_nonneg _, by show ((tops V left (left.getD j 0) : Nat) : Int) ≤ _; omega⟩
    · exact ih
theorem filter_ne_len {l : List Int} (hn : l.Nodup) {x : Int} (hx : x ∈ l) : (l.filter fun y => !(y == x)).length = l.length - 1 := by
  induction l with
  | nil => cases hx
  | cons a l ih =>
    rw [List.nodup_cons] at hn
    by_cases h : a = x
    · subst h
      have e : l.filter (fun y => !(y == a)) = l := by
        rw [List.filter_eq_self]
        intro y hy
        have : y ≠ a := fun e => hn.1 (e ▸ hy)
        simpa using this
      rw [List.filter_cons]
      simp [e]
    · rcases List.mem_cons.1 hx with h' | h'
      · exact absurd h'.symm h
      · have := ih hn.2 h'
        have hpos := List.length_pos_of_mem h'
        rw [List.filter_cons]
        simp [h, this]
        omega
structure LeftOk (n j : Nat) (l : List Int) : Prop where
  len : l.length = n - j
  nodup : l.Nodup
  rng : ∀ x ∈ l, 0 ≤ x ∧ x < n
theorem left_ok (V : List (List Int)) (n : Nat) (h1 : 1 ≤ n) : ∀ j, j ≤ n - 1 → LeftOk n j (leftTo V n j) := by
  intro j
  induction j with
  | zero => intro _; exact ⟨by simp [leftTo, sides_len], sides_nodup n, fun x hx => mem_sides.1 hx⟩
  | succ j ih =>
    intro hj
    have h := ih (by omega)
    have hm : outOf V (leftTo V n j) ∈ leftTo V n j := by
      unfold outOf
      have hl := h.len
      obtain ⟨k, hk⟩ : ∃ k, (leftTo V n j).length = k + 1 := ⟨(leftTo V n j).length - 1, by omega⟩
      rw [hk]
      exact outTo_mem V _ (fun x hx => (h.rng x hx).1) (by omega)
    refine ⟨?_, h.nodup.sublist List.filter_sublist, fun x hx => h.rng x (List.mem_filter.1 hx).1⟩
    show ((leftTo V n j).filter _).length = _
    rw [filter_ne_len h.nodup hm, h.len]; omega
theorem only_pos {n j : Nat} {left p : List Int} (hl : LeftOk n j left) (hj : j < n) (hp : p.Perm (sides n)) : 0 < (onlyIn left p).length := by
  have hll := hl.len
  have hm := getD_mem left 0 (by omega)
  have : left.getD 0 0 ∈ onlyIn left p := List.mem_filter.2 ⟨hp.mem_iff.2 (mem_sides.2 (hl.rng _ hm)), by simpa using hm⟩
  exact List.length_pos_of_mem this

/-- What rules.Winners answers: the rule's number, then that of the vote. -/
def rchk (rule n : Int) (V : List (List Int)) : Int := if rule < 1 ∨ 5 < rule then 1 else vchk n V
def winL (rule : Int) (n : Nat) (V : List (List Int)) : List Int :=
  if rule = 1 then greatest (firstsL n V) else if rule = 2 then greatest (pointsL n V) else if rule = 3 then greatest (winsL n (duelsM n V)) else if rule = 4 then greatest ((worstL n (duelsM n V)).map fun x => -x) else [lastOf n V]
theorem foldl_max_mem (l : List Int) (a : Int) : l.foldl max a = a ∨ l.foldl max a ∈ l := by
  induction l generalizing a with
  | nil => left; rfl
  | cons b l ih =>
    simp only [List.foldl_cons]
    rcases ih (max a b) with h | h
    · rw [h]
      rcases Int.le_total a b with hab | hab
      · right; rw [Int.max_eq_right hab]; simp
      · left; rw [Int.max_eq_left hab]
    · right; exact List.mem_cons_of_mem _ h
theorem most_mem {l : List Int} (h : 0 < l.length) : most l ∈ l := by
  unfold most
  match l, h with
  | b :: l, _ =>
    rcases foldl_max_mem (b :: l) ((b :: l).headD 0) with h | h
    · rw [h]; simp
    · exact h
theorem most_ge {l : List Int} {k : Nat} (hk : k < l.length) : l.getD k 0 ≤ most l := by
  have h := maxOf_ge hk l.length hk (Nat.le_refl _)
  rw [List.take_of_length_le (Nat.le_refl _)] at h
  exact h
theorem mem_greatest {l : List Int} {x : Nat} : (x : Int) ∈ greatest l ↔ x < l.length ∧ l.getD x 0 = most l := by
  unfold greatest greatTo
  rw [List.mem_map]
  constructor
  · rintro ⟨y, hy, he⟩
    have : y = x := by omega
    subst this
    rw [List.mem_filter, List.mem_range] at hy
    exact ⟨hy.1, by simpa using hy.2⟩
  · rintro ⟨h1, h2⟩
    exact ⟨x, List.mem_filter.2 ⟨List.mem_range.2 h1, by simpa using h2⟩, rfl⟩
theorem greatest_rng {l : List Int} {x : Int} (h : x ∈ greatest l) : 0 ≤ x ∧ x < l.length := by
  unfold greatest greatTo at h
  rw [List.mem_map] at h
  obtain ⟨y, hy, rfl⟩ := h
  rw [List.mem_filter, List.mem_range] at hy
  omega
theorem greatest_pos {l : List Int} (h : 0 < l.length) : 0 < (greatest l).length := by
  obtain ⟨k, hk, he⟩ := List.getElem_of_mem (most_mem h)
  exact List.length_pos_of_mem (mem_greatest.2 ⟨hk, by rw [getD_get hk]; exact he⟩)
theorem winL_pos (rule : Int) {n : Nat} (h : 1 ≤ n) (V : List (List Int)) : 0 < (winL rule n V).length := by
  unfold winL
  split
  · exact greatest_pos (by simp [firstsL, sides_len]; omega)
  · split
    · exact greatest_pos (by simp [pointsL, sides_len]; omega)
    · split
      · exact greatest_pos (by simp [winsL, sides_len]; omega)
      · split
        · exact greatest_pos (by simp [worstL, sides_len]; omega)
        · simp
theorem winL_le (rule : Int) {n : Nat} (h : 1 ≤ n) (V : List (List Int)) : (winL rule n V).length ≤ n := by
  unfold winL
  split
  · exact Nat.le_trans (greatTo_len _ _) (by simp [firstsL, sides_len])
  · split
    · exact Nat.le_trans (greatTo_len _ _) (by simp [pointsL, sides_len])
    · split
      · exact Nat.le_trans (greatTo_len _ _) (by simp [winsL, sides_len])
      · split
        · exact Nat.le_trans (greatTo_len _ _) (by simp [worstL, sides_len])
        · simp; omega
/-- What rules.Sole answers at votes. -/
def soleX (rule : Int) (n : Nat) (V : List (List Int)) : Int := if 1 < (winL rule n V).length then 0 else (winL rule n V).getD 0 0
def soleE (rule : Int) (n : Nat) (V : List (List Int)) : Int := if 1 < (winL rule n V).length then 5 else 0
end Fm

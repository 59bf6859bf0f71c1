/-
  The plain mathematics of package order: lists of ints alone, no Go text.
-/
namespace Fm

/-- What order.Check answers. -/
def isOrd (n : Int) (l : List Int) : Prop := (∀ x ∈ l, 0 ≤ x ∧ x < n) ∧ l.Nodup
abbrev isOrdDec (n : Int) (l : List Int) : Decidable (isOrd n l) := by unfold isOrd; infer_instance
attribute [instance] isOrdDec
def chk (n : Int) (l : List Int) : Int := if n < 1 ∨ 6 < n then 1 else if (l.length : Int) ≠ n then 3 else if isOrd n l then 0 else 3

theorem chk_arg {n : Int} {l : List Int} (h : n < 1 ∨ 6 < n) : chk n l = 1 := by unfold chk; rw [if_pos h]
theorem chk_len {n : Int} {l : List Int} (h : ¬ (n < 1 ∨ 6 < n)) (hl : (l.length : Int) ≠ n) : chk n l = 3 := by unfold chk; rw [if_neg h, if_pos hl]
theorem chk_bad {n : Int} {l : List Int} (h : ¬ (n < 1 ∨ 6 < n)) (hl : (l.length : Int) = n) (hb : ¬ isOrd n l) : chk n l = 3 := by unfold chk; rw [if_neg h, if_neg (by simpa using hl), if_neg hb]
theorem chk_ok {n : Int} {l : List Int} (h : ¬ (n < 1 ∨ 6 < n)) (hl : (l.length : Int) = n) (hb : isOrd n l) : chk n l = 0 := by unfold chk; rw [if_neg h, if_neg (by simpa using hl), if_pos hb]

theorem chk_zero {n : Int} {l : List Int} (h : chk n l = 0) : (1 ≤ n ∧ n ≤ 6) ∧ (l.length : Int) = n ∧ isOrd n l := by
  unfold chk at h
  by_cases h1 : n < 1 ∨ 6 < n
  · rw [if_pos h1] at h; cases h
  · rw [if_neg h1] at h
    by_cases h2 : (l.length : Int) ≠ n
    · rw [if_pos h2] at h; cases h
    · rw [if_neg h2] at h
      by_cases h3 : isOrd n l
      · exact ⟨by omega, by simpa using h2, h3⟩
      · rw [if_neg h3] at h; cases h

theorem take_succ_getD (l : List Int) (k : Nat) (h : k < l.length) : l.take (k + 1) = l.take k ++ [l.getD k 0] := by
  rw [List.take_succ_eq_append_getElem h, List.getD_eq_getElem?_getD, List.getElem?_eq_getElem h]; rfl

theorem isOrd_snoc {n : Int} {t : List Int} {x : Int} : isOrd n (t ++ [x]) ↔ isOrd n t ∧ 0 ≤ x ∧ x < n ∧ x ∉ t := by
  unfold isOrd
  rw [List.nodup_append]
  simp only [List.mem_append, List.mem_singleton]
  constructor
  · rintro ⟨h, h1, _, h3⟩
    exact ⟨⟨fun y hy => h y (.inl hy), h1⟩, (h x (.inr rfl)).1, (h x (.inr rfl)).2, fun hx => h3 x hx x (by simp) rfl⟩
  · rintro ⟨⟨h, h1⟩, h2, h3, h4⟩
    refine ⟨fun y hy => ?_, h1, by simp, fun y hy z hz => ?_⟩
    · rcases hy with hy | rfl
      · exact h y hy
      · exact ⟨h2, h3⟩
    · subst hz; rintro rfl; exact h4 hy

theorem isOrd_take {n : Int} {l : List Int} (k : Nat) (h : isOrd n l) : isOrd n (l.take k) :=
  ⟨fun x hx => h.1 x (List.mem_of_mem_take hx), h.2.sublist (List.take_sublist k l)⟩

theorem getD_mem (l : List Int) (k : Nat) (h : k < l.length) : l.getD k 0 ∈ l := by
  rw [List.getD_eq_getElem?_getD, List.getElem?_eq_getElem h]; exact List.getElem_mem h

/-- The last index below k at which q holds y, or 0. -/
def atTo (q : List Int) : Nat → Int → Int
  | 0, _ => 0
  | k + 1, y => if q.getD k 0 = y then (k : Int) else atTo q k y

/-- Of the list t, how many does f put below x. -/
def lower (f : Int → Int) (x : Int) (t : List Int) : Nat := t.countP fun y => decide (f y < f x)
theorem lower_nil (f : Int → Int) (x : Int) : lower f x [] = 0 := rfl
theorem lower_snoc (f : Int → Int) (x y : Int) (t : List Int) : lower f x (t ++ [y]) = lower f x t + if f y < f x then 1 else 0 := by
  unfold lower
  rw [List.countP_append]
  by_cases h : f y < f x <;> simp [h]
theorem lower_le (f : Int → Int) (x : Int) (t : List Int) : lower f x t ≤ t.length := List.countP_le_length
/-- The pairs i < j of p, i below k, that f ranks the other way. -/
def invTo (f : Int → Int) (p : List Int) : Nat → Nat
  | 0 => 0
  | k + 1 => invTo f p k + lower f (p.getD k 0) (p.drop (k + 1))
theorem invTo_le (f : Int → Int) (p : List Int) (k : Nat) : invTo f p k ≤ k * p.length := by
  induction k with
  | zero => simp [invTo]
  | succ k ih =>
    have h := lower_le f (p.getD k 0) (p.drop (k + 1))
    have h2 : (p.drop (k + 1)).length ≤ p.length := by simp
    have h3 : (k + 1) * p.length = k * p.length + p.length := Nat.succ_mul _ _
    simp only [invTo]
    omega
/-- What order.Far counts. -/
def inv (p q : List Int) : Nat := invTo (atTo q q.length) p p.length

/-- What tally.Check answers. -/
def vchk (n : Int) (L : List (List Int)) : Int := if n < 1 ∨ 6 < n then 1 else if 30 < L.length then 2 else if (∀ l ∈ L, chk n l = 0) then 0 else 3
theorem vchk_arg {n : Int} {L : List (List Int)} (h : n < 1 ∨ 6 < n) : vchk n L = 1 := by unfold vchk; rw [if_pos h]
theorem vchk_large {n : Int} {L : List (List Int)} (h : ¬ (n < 1 ∨ 6 < n)) (hl : 30 < L.length) : vchk n L = 2 := by unfold vchk; rw [if_neg h, if_pos hl]
theorem vchk_form {n : Int} {L : List (List Int)} (h : ¬ (n < 1 ∨ 6 < n)) (hl : ¬ 30 < L.length) (hb : ¬ ∀ l ∈ L, chk n l = 0) : vchk n L = 3 := by unfold vchk; rw [if_neg h, if_neg hl, if_neg hb]
theorem vchk_ok {n : Int} {L : List (List Int)} (h : ¬ (n < 1 ∨ 6 < n)) (hl : ¬ 30 < L.length) (hb : ∀ l ∈ L, chk n l = 0) : vchk n L = 0 := by unfold vchk; rw [if_neg h, if_neg hl, if_pos hb]
theorem vchk_zero {n : Int} {L : List (List Int)} (h : vchk n L = 0) : (1 ≤ n ∧ n ≤ 6) ∧ L.length ≤ 30 ∧ ∀ l ∈ L, chk n l = 0 := by
  unfold vchk at h
  by_cases h1 : n < 1 ∨ 6 < n
  · rw [if_pos h1] at h; cases h
  · rw [if_neg h1] at h
    by_cases h2 : 30 < L.length
    · rw [if_pos h2] at h; cases h
    · rw [if_neg h2] at h
      by_cases h3 : ∀ l ∈ L, chk n l = 0
      · exact ⟨by omega, by omega, h3⟩
      · rw [if_neg h3] at h; cases h
theorem all_getD {P : List Int → Prop} {L : List (List Int)} (h : ∀ j, j < L.length → P (L.getD j [])) : ∀ l ∈ L, P l := by
  intro l hl
  obtain ⟨j, hj, rfl⟩ := List.getElem_of_mem hl
  have := h j hj
  rw [List.getD_eq_getElem?_getD, List.getElem?_eq_getElem hj] at this
  exact this

end Fm

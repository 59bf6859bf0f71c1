/-
  An order along a line that is laid from its first to both sides; how many orders are along a line: lists of ints alone, no Go text.
-/
import Derived.Test.YtcjhgkmodfkmoaaPeakMath
namespace Fm
set_option linter.unusedVariables false

/-- What plumekeep.along has laid after i steps: the first of the line that is in it, the first behind it that is not, the order. -/
def alAt (line l : List Int) : Nat := if 0 < l.length then ((l.getD 0 0) % (line.length : Int)).toNat else 0
def alLeft (line l : List Int) (lo hi i : Nat) : Bool := decide (line.length ≤ hi) || (decide (0 < lo) && decide (i < l.length) && decide ((l.getD i 0).tmod 2 = 0))
def alTo (line l : List Int) : Nat → Nat × Nat × List Int
  | 0 => (alAt line l, alAt line l + 1, [line.getD (alAt line l) 0])
  | i + 1 => if alLeft line l (alTo line l i).1 (alTo line l i).2.1 (i + 1) = true
      then ((alTo line l i).1 - 1, (alTo line l i).2.1, (alTo line l i).2.2 ++ [line.getD ((alTo line l i).1 - 1) 0])
      else ((alTo line l i).1, (alTo line l i).2.1 + 1, (alTo line l i).2.2 ++ [line.getD (alTo line l i).2.1 0])
/-- The order that plumekeep.along lays. -/
def alongL (line l : List Int) : List Int := (alTo line l (line.length - 1)).2.2

theorem pos_snoc_old {q : List Int} {x y : Int} (hxy : x ≠ y) : pos (q ++ [x]) y = pos q y := by
  unfold pos
  rw [List.length_append, List.length_singleton, atTo]
  have e : (q ++ [x]).getD q.length 0 = x := by rw [getD_get (by simp)]; simp
  rw [e, if_neg hxy]
  have : ∀ m, m ≤ q.length → atTo (q ++ [x]) m y = atTo q m y := by
    intro m
    induction m with
    | zero => intro _; rfl
    | succ m ih =>
      intro hm
      rw [atTo, atTo, ih (by omega)]
      have e2 : (q ++ [x]).getD m 0 = q.getD m 0 := by rw [getD_get (by simp; omega), getD_get (by omega), List.getElem_append_left (by omega)]
      rw [e2]
  exact this _ (Nat.le_refl _)
theorem pos_snoc_new (q : List Int) (x : Int) : pos (q ++ [x]) x = q.length := by
  unfold pos
  rw [List.length_append, List.length_singleton, atTo]
  have e : (q ++ [x]).getD q.length 0 = x := by rw [getD_get (by simp)]; simp
  rw [e, if_pos rfl]
theorem pos_lt {q : List Int} (hq : q.Nodup) {y : Int} (hy : y ∈ q) : pos q y < q.length := by
  obtain ⟨k, hk, _, h⟩ := pos_mem hq hy
  omega
/-- What holds on the way: it has the line from lo up to hi, and is along it. -/
structure AlInv (line : List Int) (lo hi : Nat) (q : List Int) : Prop where
  lt : lo < hi
  le : hi ≤ line.length
  len : q.length = hi - lo
  nd : q.Nodup
  mem : ∀ x, x ∈ q ↔ ∃ j, lo ≤ j ∧ j < hi ∧ line.getD j 0 = x
  al : ∀ i j k, lo ≤ i → i < j → j < k → k < hi → ¬ (pos q (line.getD i 0) < pos q (line.getD j 0) ∧ pos q (line.getD k 0) < pos q (line.getD j 0))
section
variable {line l : List Int} {n : Nat}
theorem line_inj (hnd : line.Nodup) {i j : Nat} (hi : i < line.length) (hj : j < line.length) (h : line.getD i 0 = line.getD j 0) : i = j := by
  have a := pos_idx hnd hi
  have b := pos_idx hnd hj
  rw [h, b] at a
  omega
theorem alInv_left (hnd : line.Nodup) {lo hi : Nat} {q : List Int} (h : AlInv line lo hi q) (h0 : 0 < lo) : AlInv line (lo - 1) hi (q ++ [line.getD (lo - 1) 0]) := by
  have h1 := h.lt
  have h2 := h.le
  have h3 := h.len
  have hnew : line.getD (lo - 1) 0 ∉ q := fun hm => by
    obtain ⟨j, a, b, c⟩ := (h.mem _).1 hm
    have := line_inj hnd (by omega) (by omega) c
    omega
  have old : ∀ m, lo ≤ m → m < hi → pos (q ++ [line.getD (lo - 1) 0]) (line.getD m 0) = pos q (line.getD m 0) := fun m a b => pos_snoc_old (fun e => by have := line_inj hnd (by omega) (by omega) e; omega)
  have inq : ∀ m, lo ≤ m → m < hi → pos q (line.getD m 0) < q.length := fun m a b => pos_lt h.nd ((h.mem _).2 ⟨m, a, b, rfl⟩)
  refine ⟨by omega, h2, by rw [List.length_append, List.length_singleton]; omega, ?_, fun x => ?_, fun i j k a b c d => ?_⟩
  · rw [List.nodup_append]
    exact ⟨h.nd, by simp, fun a ha b hb e => hnew (by rw [List.mem_singleton] at hb; subst hb; subst e; exact ha)⟩
  · rw [List.mem_append, List.mem_singleton]
    constructor
    · rintro (hx | hx)
      · obtain ⟨j, a, b, c⟩ := (h.mem _).1 hx
        exact ⟨j, by omega, b, c⟩
      · exact ⟨lo - 1, by omega, by omega, hx.symm⟩
    · rintro ⟨j, a, b, c⟩
      by_cases e : j = lo - 1
      · subst e; exact .inr c.symm
      · exact .inl ((h.mem _).2 ⟨j, by omega, b, c⟩)
  · by_cases e : i = lo - 1
    · subst e
      rw [pos_snoc_new, old j (by omega) (by omega)]
      have := inq j (by omega) (by omega)
      omega
    · rw [old i (by omega) (by omega), old j (by omega) (by omega), old k (by omega) (by omega)]
      exact h.al i j k (by omega) b c d
theorem alInv_right (hnd : line.Nodup) {lo hi : Nat} {q : List Int} (h : AlInv line lo hi q) (h0 : hi < line.length) : AlInv line lo (hi + 1) (q ++ [line.getD hi 0]) := by
  have h1 := h.lt
  have h3 := h.len
  have hnew : line.getD hi 0 ∉ q := fun hm => by
    obtain ⟨j, a, b, c⟩ := (h.mem _).1 hm
    have := line_inj hnd (by omega) (by omega) c
    omega
  have old : ∀ m, lo ≤ m → m < hi → pos (q ++ [line.getD hi 0]) (line.getD m 0) = pos q (line.getD m 0) := fun m a b => pos_snoc_old (fun e => by have := line_inj hnd (by omega) (by omega) e; omega)
  have inq : ∀ m, lo ≤ m → m < hi → pos q (line.getD m 0) < q.length := fun m a b => pos_lt h.nd ((h.mem _).2 ⟨m, a, b, rfl⟩)
  refine ⟨by omega, by omega, by rw [List.length_append, List.length_singleton]; omega, ?_, fun x => ?_, fun i j k a b c d => ?_⟩
  · rw [List.nodup_append]
    exact ⟨h.nd, by simp, fun a ha b hb e => hnew (by rw [List.mem_singleton] at hb; subst hb; subst e; exact ha)⟩
  · rw [List.mem_append, List.mem_singleton]
    constructor
    · rintro (hx | hx)
      · obtain ⟨j, a, b, c⟩ := (h.mem _).1 hx
        exact ⟨j, by omega, by omega, c⟩
      · exact ⟨hi, by omega, by omega, hx.symm⟩
    · rintro ⟨j, a, b, c⟩
      by_cases e : j = hi
      · subst e; exact .inr c.symm
      · exact .inl ((h.mem _).2 ⟨j, a, by omega, c⟩)
  · by_cases e : k = hi
    · subst e
      rw [pos_snoc_new, old j (by omega) (by omega)]
      have := inq j (by omega) (by omega)
      omega
    · rw [old i (by omega) (by omega), old j (by omega) (by omega), old k (by omega) (by omega)]
      exact h.al i j k a b c (by omega)
theorem alAt_lt (hn : 0 < line.length) : alAt line l < line.length := by
  unfold alAt
  split
  · have := Int.emod_nonneg (l.getD 0 0) (b := (line.length : Int)) (by omega)
    have := Int.emod_lt_of_pos (l.getD 0 0) (b := (line.length : Int)) (by omega)
    omega
  · exact hn
theorem alTo_inv (hnd : line.Nodup) (hn : 0 < line.length) (i : Nat) (hi : i < line.length) : AlInv line (alTo line l i).1 (alTo line l i).2.1 (alTo line l i).2.2 ∧ (alTo line l i).2.1 = (alTo line l i).1 + (i + 1) := by
  induction i with
  | zero =>
    have h := alAt_lt (l := l) hn
    rw [alTo]
    dsimp only
    refine ⟨⟨by omega, by omega, by simp, by simp, fun x => ?_, fun i j k a b c d => by omega⟩, by omega⟩
    rw [List.mem_singleton]
    constructor
    · intro e; exact ⟨_, Nat.le_refl _, by omega, e.symm⟩
    · rintro ⟨j, a, b, c⟩
      have : j = alAt line l := by omega
      subst this; exact c.symm
  | succ i ih =>
    obtain ⟨h1, h2⟩ := ih (by omega)
    rw [alTo]
    by_cases hc : alLeft line l (alTo line l i).1 (alTo line l i).2.1 (i + 1) = true
    · rw [if_pos hc]
      have h0 : 0 < (alTo line l i).1 := by
        unfold alLeft at hc
        rw [Bool.or_eq_true, Bool.and_eq_true, Bool.and_eq_true, decide_eq_true_eq, decide_eq_true_eq] at hc
        rcases hc with hc | hc
        · omega
        · exact hc.1.1
      exact ⟨alInv_left hnd h1 h0, by simp only; omega⟩
    · rw [if_neg hc]
      have h0 : (alTo line l i).2.1 < line.length := by
        unfold alLeft at hc
        rw [Bool.or_eq_true, decide_eq_true_eq] at hc
        omega
      exact ⟨alInv_right hnd h1 h0, by simp only; omega⟩
theorem alongL_spec (hl : line.Perm (sides n)) (h1 : 1 ≤ n) (l : List Int) : (alongL line l).Perm (sides n) ∧ Along line (alongL line l) := by
  have hln := perm_len hl
  have hnd := perm_nodup hl
  obtain ⟨h, e⟩ := alTo_inv (l := l) hnd (by omega) (line.length - 1) (by omega)
  have hle := h.le
  have e0 : (alTo line l (line.length - 1)).1 = 0 := by omega
  have e1 : (alTo line l (line.length - 1)).2.1 = line.length := by omega
  rw [e0, e1] at h
  refine ⟨?_, fun i j k a b c => decide_eq_false (h.al i j k (Nat.zero_le _) a b c)⟩
  refine isOrd_perm (by have := h.len; show (alTo line l (line.length - 1)).2.2.length = n; omega) ⟨fun x hx => ?_, h.nd⟩
  obtain ⟨j, _, hj, hx⟩ := (h.mem x).1 hx
  rw [← hx]
  exact mem_sides.1 (hl.mem_iff.1 (getD_mem line j hj))

/-- From the other end the same. -/
theorem along_rev {p : List Int} : alongB line.reverse p = alongB line p := by
  have h : ∀ m : List Int, Along m p → Along m.reverse p := fun m h i j k a b c => by
    rw [List.length_reverse] at c
    have e : ∀ x, x < m.length → m.reverse.getD x 0 = m.getD (m.length - 1 - x) 0 := fun x hx => by
      rw [getD_get (by rw [List.length_reverse]; exact hx), List.getElem_reverse, getD_get (by omega)]
    have := h.not_last (i := m.length - 1 - k) (j := m.length - 1 - j) (k := m.length - 1 - i) (by omega) (by omega) (by omega)
    unfold lastB
    rw [e i (by omega), e j (by omega), e k (by omega)]
    exact decide_eq_false (fun q => this ⟨q.2, q.1⟩)
  cases h1 : alongB line p with
  | true => exact along_iff.2 (h line (along_iff.1 h1))
  | false =>
    cases h2 : alongB line.reverse p with
    | false => rfl
    | true =>
      have := along_iff.2 (h _ (along_iff.1 h2))
      rw [List.reverse_reverse, h1] at this
      cases this
end
end Fm

/-
  Pairwise tables: when one is right, and the smallest set of which each beats all others: lists of ints alone, no Go text.
-/
import Derived.Test.YtbpenheomiejfaaFnMath
namespace Fm
set_option linter.unusedVariables false

def rowErr (n : Nat) (r : List Int) : Int := if r.length ≠ n then 3 else if (∀ x ∈ r, 0 ≤ x ∧ x ≤ 30) then 0 else 1
def firstErr (n : Nat) : List (List Int) → Int
  | [] => 0
  | r :: M => if rowErr n r ≠ 0 then rowErr n r else firstErr n M
def diagOk (M : List (List Int)) : Prop := ∀ i, i < M.length → ent M i i = 0
instance (M : List (List Int)) : Decidable (diagOk M) := by unfold diagOk; infer_instance
/-- What duel.Check answers. -/
def tchk (M : List (List Int)) : Int := if M.length = 0 ∨ 6 < M.length then 2 else if firstErr M.length M ≠ 0 then firstErr M.length M else if diagOk M then 0 else 3

theorem firstErr_zero {n : Nat} {M : List (List Int)} : firstErr n M = 0 ↔ ∀ r ∈ M, rowErr n r = 0 := by
  induction M with
  | nil => simp [firstErr]
  | cons r M ih =>
    simp only [firstErr, List.mem_cons, forall_eq_or_imp]
    by_cases h : rowErr n r = 0
    · rw [if_neg (by simpa using h), ih]; simp [h]
    · rw [if_pos h]; simp [h]
theorem firstErr_split {n : Nat} (A : List (List Int)) (r : List Int) (C : List (List Int)) (hA : ∀ q ∈ A, rowErr n q = 0) (hr : rowErr n r ≠ 0) : firstErr n (A ++ r :: C) = rowErr n r := by
  induction A with
  | nil => simp [firstErr, hr]
  | cons q A ih =>
    simp only [List.cons_append, firstErr]
    rw [if_neg (by simpa using hA q (by simp))]
    exact ih (fun q hq => hA q (by simp [hq]))
theorem firstErr_at {n : Nat} {M : List (List Int)} {k : Nat} (hk : k < M.length) (hA : ∀ q ∈ M.take k, rowErr n q = 0) (hr : rowErr n (M.getD k []) ≠ 0) : firstErr n M = rowErr n (M.getD k []) := by
  have e : M = M.take k ++ M.getD k [] :: M.drop (k + 1) := by
    rw [List.getD_eq_getElem?_getD, List.getElem?_eq_getElem hk]
    simp
  have h := firstErr_split (M.take k) (M.getD k []) (M.drop (k + 1)) hA hr
  rw [← e] at h
  exact h
theorem rowErr_zero {n : Nat} {r : List Int} : rowErr n r = 0 ↔ r.length = n ∧ ∀ x ∈ r, 0 ≤ x ∧ x ≤ 30 := by
  unfold rowErr
  by_cases h : r.length = n
  · rw [if_neg (by simpa using h)]
    by_cases h2 : ∀ x ∈ r, 0 ≤ x ∧ x ≤ 30
    · rw [if_pos h2]; exact ⟨fun _ => ⟨h, h2⟩, fun _ => rfl⟩
    · rw [if_neg h2]; exact ⟨(fun c => by cases c), fun c => absurd c.2 h2⟩
  · rw [if_pos h]; exact ⟨(fun c => by cases c), fun c => absurd c.1 h⟩

/-- A right table. -/
structure Tab (n : Nat) (M : List (List Int)) : Prop where
  len : M.length = n
  pos : 1 ≤ n
  six : n ≤ 6
  rows : ∀ l ∈ M, l.length = n
  bd : ∀ x y, 0 ≤ ent M x y ∧ ent M x y ≤ 30
  diag : ∀ x, ent M x x = 0
theorem memR {M : List (List Int)} {x : Nat} (h : x < M.length) : M.getD x [] ∈ M := by
  rw [List.getD_eq_getElem?_getD, List.getElem?_eq_getElem h]; exact List.getElem_mem h
theorem ent_out {M : List (List Int)} {x y : Nat} (h : M.length ≤ x) : ent M x y = 0 := by
  unfold ent; rw [List.getD_eq_getElem?_getD (l := M), List.getElem?_eq_none h]; simp
theorem tab_of {M : List (List Int)} (h : tchk M = 0) : Tab M.length M := by
  unfold tchk at h
  by_cases h1 : M.length = 0 ∨ 6 < M.length
  · rw [if_pos h1] at h; cases h
  · rw [if_neg h1] at h
    by_cases h2 : firstErr M.length M = 0
    · rw [if_neg (by simpa using h2)] at h
      by_cases h3 : diagOk M
      · have hr := firstErr_zero.1 h2
        refine ⟨rfl, by omega, by omega, fun l hl => (rowErr_zero.1 (hr l hl)).1, fun x y => ?_, fun x => ?_⟩
        · by_cases hx : x < M.length
          · have hl := (rowErr_zero.1 (hr _ (memR hx)))
            unfold ent
            by_cases hy : y < (M.getD x []).length
            · exact hl.2 _ (getD_mem _ y hy)
            · rw [List.getD_eq_getElem?_getD, List.getElem?_eq_none (by omega)]; simp
          · rw [ent_out (by omega)]; omega
        · by_cases hx : x < M.length
          · exact h3 x hx
          · exact ent_out (by omega)
      · rw [if_neg h3] at h; cases h
    · rw [if_pos h2] at h; exact absurd h h2

/-- Each of the set s beats each one outside of it. -/
def dom (n : Nat) (M : List (List Int)) (s : Nat) : Bool := (List.range n).all fun x => (List.range n).all fun y => !(s.testBit x) || s.testBit y || decide (ent M y x < ent M x y)
def inTop (n : Nat) (M : List (List Int)) (x : Nat) : Bool := (List.range (2 ^ n)).all fun s => s == 0 || !(dom n M s) || s.testBit x
def setL (n s : Nat) : List Int := ((List.range n).filter fun x => s.testBit x).map fun (i : Nat) => (i : Int)
/-- The Smith set. -/
def topL (n : Nat) (M : List (List Int)) : List Int := ((List.range n).filter fun x => inTop n M x).map fun (i : Nat) => (i : Int)

theorem dom_iff {n : Nat} {M : List (List Int)} {s : Nat} : dom n M s = true ↔ ∀ x, x < n → ∀ y, y < n → s.testBit x = true → s.testBit y = false → ent M y x < ent M x y := by
  unfold dom
  simp only [List.all_eq_true, List.mem_range, Bool.or_eq_true, Bool.not_eq_true', decide_eq_true_eq]
  constructor
  · intro h x hx y hy h1 h2
    rcases h x hx y hy with (h3 | h3) | h3
    · rw [h3] at h1; cases h1
    · rw [h3] at h2; cases h2
    · exact h3
  · intro h x hx y hy
    cases h1 : s.testBit x with
    | false => exact .inl (.inl rfl)
    | true =>
      cases h2 : s.testBit y with
      | true => exact .inl (.inr rfl)
      | false => exact .inr (h x hx y hy h1 h2)
theorem inTop_iff {n : Nat} {M : List (List Int)} {x : Nat} : inTop n M x = true ↔ ∀ s, 0 < s → s < 2 ^ n → dom n M s = true → s.testBit x = true := by
  unfold inTop
  simp only [List.all_eq_true, List.mem_range, Bool.or_eq_true, Bool.not_eq_true', beq_iff_eq]
  constructor
  · intro h s h0 hs hd
    rcases h s hs with (h3 | h3) | h3
    · omega
    · rw [h3] at hd; cases hd
    · exact h3
  · intro h s hs
    by_cases h0 : s = 0
    · exact .inl (.inl h0)
    · cases hd : dom n M s with
      | false => exact .inl (.inr rfl)
      | true => exact .inr (h s (by omega) hs hd)

/-- The set that P says, as a number. -/
def maskOf (P : Nat → Bool) : Nat → Nat
  | 0 => 0
  | n + 1 => maskOf P n + if P n then 2 ^ n else 0
theorem maskOf_lt (P : Nat → Bool) (n : Nat) : maskOf P n < 2 ^ n := by
  induction n with
  | zero => simp [maskOf]
  | succ n ih =>
    simp only [maskOf]
    rw [Nat.pow_succ]
    split <;> omega
theorem maskOf_bit (P : Nat → Bool) {n x : Nat} (h : x < n) : (maskOf P n).testBit x = P x := by
  induction n with
  | zero => omega
  | succ n ih =>
    simp only [maskOf]
    have hlt := maskOf_lt P n
    by_cases hx : x = n
    · subst hx
      by_cases hp : P x = true
      · rw [if_pos hp, hp, Nat.add_comm, Nat.testBit_two_pow_add_eq]
        rw [Nat.testBit_lt_two_pow hlt]; rfl
      · have hp' : P x = false := by simpa using hp
        rw [if_neg hp, hp', Nat.add_zero]
        exact Nat.testBit_lt_two_pow hlt
    · have hxn : x < n := by omega
      by_cases hp : P n = true
      · rw [if_pos hp, Nat.add_comm, Nat.testBit_two_pow_add_gt hxn, ih hxn]
      · rw [if_neg hp, Nat.add_zero, ih hxn]
theorem mask_pos {s n x : Nat} (h : s.testBit x = true) : 0 < s := by
  rcases Nat.eq_zero_or_pos s with h0 | h0
  · subst h0; simp at h
  · exact h0
/-- A set of the smallest kind: it beats all others, and every such set holds it. -/
theorem topL_of {n : Nat} {M : List (List Int)} (P : Nat → Bool) (hne : ∃ x, x < n ∧ P x = true) (hd : ∀ x y, x < n → y < n → P x = true → P y = false → ent M y x < ent M x y)
    (hmin : ∀ Q : Nat → Bool, (∃ x, x < n ∧ Q x = true) → (∀ x y, x < n → y < n → Q x = true → Q y = false → ent M y x < ent M x y) → ∀ x, x < n → P x = true → Q x = true) :
    topL n M = ((List.range n).filter P).map fun (i : Nat) => (i : Int) := by
  unfold topL
  congr 1
  apply List.filter_congr
  intro x hx
  have hx := List.mem_range.1 hx
  cases hp : P x with
  | true =>
    rw [inTop_iff]
    intro s h0 hs hds
    have hs2 : ∃ y, y < n ∧ s.testBit y = true := by
      obtain ⟨y, hy⟩ := Nat.exists_testBit_of_ne_zero (Nat.ne_of_gt h0)
      refine ⟨y, ?_, hy⟩
      rcases Nat.lt_or_ge y n with h | h
      · exact h
      · rw [Nat.testBit_lt_two_pow (Nat.lt_of_lt_of_le hs (Nat.pow_le_pow_right (by omega) h))] at hy; cases hy
    exact hmin (fun y => s.testBit y) hs2 (fun a b ha hb h1 h2 => dom_iff.1 hds a ha b hb h1 h2) x hx hp
  | false =>
    rw [Bool.eq_false_iff]
    intro hin
    rw [inTop_iff] at hin
    obtain ⟨z, hz, hpz⟩ := hne
    have hb := hin (maskOf P n) (mask_pos (n := n) (x := z) (by rw [maskOf_bit P hz]; exact hpz)) (maskOf_lt P n) (dom_iff.2 (fun a ha b hb h1 h2 => by
      rw [maskOf_bit P ha] at h1
      rw [maskOf_bit P hb] at h2
      exact hd a b ha hb h1 h2))
    rw [maskOf_bit P hx, hp] at hb
    cases hb
theorem dom_nest {n : Nat} {M : List (List Int)} {s t : Nat} (hs : dom n M s = true) (ht : dom n M t = true) : (∀ x, x < n → s.testBit x = true → t.testBit x = true) ∨ (∀ x, x < n → t.testBit x = true → s.testBit x = true) := by
  rcases Classical.em (∃ x, x < n ∧ s.testBit x = true ∧ t.testBit x = false) with ⟨x, hx, h1, h2⟩ | hno
  · right
    intro y hy hty
    cases hsy : s.testBit y with
    | true => rfl
    | false =>
      have a := dom_iff.1 hs x hx y hy h1 hsy
      have b := dom_iff.1 ht y hy x hx hty h2
      omega
  · left
    intro x hx h1
    cases htx : t.testBit x with
    | true => rfl
    | false => exact absurd ⟨x, hx, h1, htx⟩ hno
theorem filter_sub {l : List Nat} {p q : Nat → Bool} (h : ∀ x ∈ l, p x = true → q x = true) : (l.filter p).length ≤ (l.filter q).length ∧ ((l.filter q).length ≤ (l.filter p).length → ∀ x ∈ l, q x = true → p x = true) := by
  induction l with
  | nil => simp
  | cons a l ih =>
    obtain ⟨h1, h2⟩ := ih (fun x hx => h x (by simp [hx]))
    have ha := h a (by simp)
    cases hp : p a with
    | true =>
      rw [hp] at ha
      have hq := ha rfl
      simp only [List.filter_cons, hp, hq, if_true, List.length_cons]
      refine ⟨by omega, fun hle x hx hqx => ?_⟩
      rcases List.mem_cons.1 hx with rfl | hx
      · exact hp
      · exact h2 (by omega) x hx hqx
    | false =>
      cases hq : q a with
      | true =>
        simp only [List.filter_cons, hp, hq, if_true, List.length_cons, Bool.false_eq_true, if_false]
        refine ⟨by omega, fun hle => ?_⟩
        omega
      | false =>
        simp only [List.filter_cons, hp, hq, Bool.false_eq_true, if_false]
        refine ⟨h1, fun hle x hx hqx => ?_⟩
        rcases List.mem_cons.1 hx with rfl | hx
        · rw [hq] at hqx; cases hqx
        · exact h2 hle x hx hqx
/-- What the search over all sets below s has found: nothing, or a smallest one. -/
def bestTo (n : Nat) (M : List (List Int)) : Nat → List Int
  | 0 => []
  | s + 1 => if s ≠ 0 ∧ dom n M s = true ∧ (bestTo n M s = [] ∨ (setL n s).length < (bestTo n M s).length) then setL n s else bestTo n M s
theorem setL_nil {n s : Nat} (h0 : 0 < s) (hs : s < 2 ^ n) : setL n s ≠ [] := by
  obtain ⟨y, hy⟩ := Nat.exists_testBit_of_ne_zero (Nat.ne_of_gt h0)
  have hyn : y < n := by
    rcases Nat.lt_or_ge y n with h | h
    · exact h
    · rw [Nat.testBit_lt_two_pow (Nat.lt_of_lt_of_le hs (Nat.pow_le_pow_right (by omega) h))] at hy; cases hy
  intro h
  have : (y : Int) ∈ setL n s := List.mem_map.2 ⟨y, List.mem_filter.2 ⟨List.mem_range.2 hyn, hy⟩, rfl⟩
  rw [h] at this
  cases this
theorem bestTo_inv (n : Nat) (M : List (List Int)) (s : Nat) (hs : s ≤ 2 ^ n) :
    (bestTo n M s = [] ∧ ∀ t, 0 < t → t < s → dom n M t = false) ∨ ∃ u, 0 < u ∧ u < s ∧ dom n M u = true ∧ bestTo n M s = setL n u ∧ ∀ t, 0 < t → t < s → dom n M t = true → (setL n u).length ≤ (setL n t).length := by
  induction s with
  | zero => left; exact ⟨rfl, fun t h1 h2 => by omega⟩
  | succ s ih =>
    have ih := ih (by omega)
    simp only [bestTo]
    by_cases hc : s ≠ 0 ∧ dom n M s = true ∧ (bestTo n M s = [] ∨ (setL n s).length < (bestTo n M s).length)
    · rw [if_pos hc]
      right
      refine ⟨s, by omega, by omega, hc.2.1, rfl, fun t h1 h2 h3 => ?_⟩
      by_cases hts : t = s
      · subst hts; exact Nat.le_refl _
      · rcases ih with ⟨hb, hn⟩ | ⟨u, hu0, hus, hud, hbu, hmin⟩
        · rw [hn t h1 (by omega)] at h3; cases h3
        · have := hmin t h1 (by omega) h3
          rcases hc.2.2 with he | hl
          · exact absurd (hbu ▸ he) (setL_nil hu0 (by omega))
          · rw [hbu] at hl; omega
    · rw [if_neg hc]
      rcases ih with ⟨hb, hn⟩ | ⟨u, hu0, hus, hud, hbu, hmin⟩
      · left
        refine ⟨hb, fun t h1 h2 => ?_⟩
        by_cases hts : t = s
        · subst hts
          cases hd : dom n M t with
          | false => rfl
          | true => exact absurd ⟨by omega, hd, .inl hb⟩ hc
        · exact hn t h1 (by omega)
      · right
        refine ⟨u, hu0, by omega, hud, hbu, fun t h1 h2 h3 => ?_⟩
        by_cases hts : t = s
        · subst hts
          rcases Nat.lt_or_ge (setL n t).length (setL n u).length with hl | hl
          · exact absurd ⟨by omega, h3, .inr (by rw [hbu]; exact hl)⟩ hc
          · exact hl
        · exact hmin t h1 (by omega) h3
theorem full_dom (n : Nat) (M : List (List Int)) : dom n M (2 ^ n - 1) = true := by
  rw [dom_iff]
  intro x hx y hy _ h2
  rw [Nat.testBit_two_pow_sub_one] at h2
  simp at h2
  omega
theorem bestTo_top {n : Nat} {M : List (List Int)} (hn : 1 ≤ n) : bestTo n M (2 ^ n) = topL n M := by
  have h2 : 2 ^ 1 ≤ 2 ^ n := Nat.pow_le_pow_right (by omega) hn
  rcases bestTo_inv n M (2 ^ n) (Nat.le_refl _) with ⟨hb, hno⟩ | ⟨u, hu0, hus, hud, hbu, hmin⟩
  · have := hno (2 ^ n - 1) (by omega) (by omega)
    rw [full_dom] at this
    cases this
  · rw [hbu]
    have hlen : ∀ t, (setL n t).length = ((List.range n).filter fun x => t.testBit x).length := fun t => by simp [setL]
    unfold setL topL
    congr 1
    apply List.filter_congr
    intro x hx
    have hxn := List.mem_range.1 hx
    cases hp : u.testBit x with
    | true =>
      symm
      rw [inTop_iff]
      intro t ht0 ht htd
      rcases dom_nest hud htd with h | h
      · exact h x hxn hp
      · have hl := hmin t ht0 ht htd
        rw [hlen, hlen] at hl
        exact (filter_sub (l := List.range n) (p := fun x => t.testBit x) (q := fun x => u.testBit x) (fun y hy => h y (List.mem_range.1 hy))).2 hl x hx hp
    | false =>
      symm
      rw [Bool.eq_false_iff]
      intro hin
      rw [inTop_iff] at hin
      have := hin u hu0 hus hud
      rw [hp] at this
      cases this
/-- Two different ones of the n. -/
def okPair (n : Int) (b : List Int) : Prop := b.length = 2 ∧ (0 ≤ b.getD 0 0 ∧ b.getD 0 0 < n) ∧ (0 ≤ b.getD 1 0 ∧ b.getD 1 0 < n) ∧ b.getD 0 0 ≠ b.getD 1 0
instance (n : Int) (b : List Int) : Decidable (okPair n b) := by unfold okPair; infer_instance
/-- What duel.Votes refuses. -/
def bchk (n : Int) (L : List (List Int)) : Int := if n < 1 ∨ 6 < n then 1 else if 15 < L.length then 2 else if (∀ b ∈ L, okPair n b) then 0 else 3
def others (n : Nat) (b : List Int) : List Int := (sides n).filter fun x => !(x == b.getD 0 0 || x == b.getD 1 0)
/-- McGarvey's ballots. -/
def mcg (n : Nat) (L : List (List Int)) : List (List Int) := L.flatMap fun b => [b ++ others n b, (others n b).reverse ++ b]
theorem bchk_zero {n : Int} {L : List (List Int)} (h : bchk n L = 0) : (1 ≤ n ∧ n ≤ 6) ∧ L.length ≤ 15 ∧ ∀ b ∈ L, okPair n b := by
  unfold bchk at h
  by_cases h1 : n < 1 ∨ 6 < n
  · rw [if_pos h1] at h; cases h
  · rw [if_neg h1] at h
    by_cases h2 : 15 < L.length
    · rw [if_pos h2] at h; cases h
    · rw [if_neg h2] at h
      by_cases h3 : ∀ b ∈ L, okPair n b
      · exact ⟨by omega, by omega, h3⟩
      · rw [if_neg h3] at h; cases h
end Fm

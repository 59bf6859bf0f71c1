/-
  Games of two by their tables: what each is sure of, the points, the same seen by the other one: lists alone, no Go text.
-/
import Derived.Test.YtimjepakdldacaaPureB
import Derived.Test.YtimjepakdldacaaPureA
namespace Fm
set_option linter.unusedVariables false

def payErr (k : Nat) (r : List Int) : Int := if r.length ≠ k then 3 else if r.length = 0 ∨ 6 < r.length then 2 else if (∀ x ∈ r, -1000 ≤ x ∧ x ≤ 1000) then 0 else 1
def firstPay (k : Nat) : List (List Int) → Int
  | [] => 0
  | r :: M => if payErr k r ≠ 0 then payErr k r else firstPay k M
/-- What the check of a table answers. -/
def pchk (M : List (List Int)) : Int := if M.length = 0 ∨ 6 < M.length then 2 else firstPay (M.getD 0 []).length M
theorem firstPay_zero {k : Nat} {M : List (List Int)} : firstPay k M = 0 ↔ ∀ r ∈ M, payErr k r = 0 := by
  induction M with
  | nil => simp [firstPay]
  | cons r M ih =>
    unfold firstPay
    by_cases h : payErr k r = 0
    · rw [if_neg (by simpa using h), ih]; simp [h]
    · rw [if_pos h]; simp [h]
theorem firstPay_split {k : Nat} (A : List (List Int)) (r : List Int) (C : List (List Int)) (hA : ∀ q ∈ A, payErr k q = 0) (hr : payErr k r ≠ 0) : firstPay k (A ++ r :: C) = payErr k r := by
  induction A with
  | nil => rw [List.nil_append, firstPay, if_pos hr]
  | cons a A ih =>
    rw [List.cons_append]
    unfold firstPay
    rw [if_neg (by simpa using hA a (by simp)), ih (fun q hq => hA q (by simp [hq]))]
theorem firstPay_at {k : Nat} {M : List (List Int)} {t : Nat} (ht : t < M.length) (hA : ∀ q ∈ M.take t, payErr k q = 0) (hr : payErr k (M.getD t []) ≠ 0) : firstPay k M = payErr k (M.getD t []) := by
  have e : M = M.take t ++ M.getD t [] :: M.drop (t + 1) := by
    rw [List.getD_eq_getElem?_getD, List.getElem?_eq_getElem ht]
    simp
  have := firstPay_split (M.take t) (M.getD t []) (M.drop (t + 1)) hA hr
  rw [← e] at this
  exact this
theorem payErr_zero {k : Nat} {r : List Int} : payErr k r = 0 ↔ r.length = k ∧ (1 ≤ k ∧ k ≤ 6) ∧ ∀ x ∈ r, -1000 ≤ x ∧ x ≤ 1000 := by
  unfold payErr
  by_cases h : r.length = k
  · rw [if_neg (by simpa using h)]
    by_cases h2 : r.length = 0 ∨ 6 < r.length
    · rw [if_pos h2]; constructor
      · intro q; cases q
      · rintro ⟨_, q, _⟩; omega
    · rw [if_neg h2]
      by_cases h3 : ∀ x ∈ r, -1000 ≤ x ∧ x ≤ 1000
      · rw [if_pos h3]; exact ⟨fun _ => ⟨h, by omega, h3⟩, fun _ => rfl⟩
      · rw [if_neg h3]; exact ⟨(fun q => by cases q), fun q => absurd q.2.2 h3⟩
  · rw [if_pos h]; exact ⟨(fun q => by cases q), fun q => absurd q.1 h⟩
/-- A table that is right: r rows of k. -/
structure Pay (r k : Nat) (M : List (List Int)) : Prop where
  len : M.length = r
  r1 : 1 ≤ r
  r6 : r ≤ 6
  k1 : 1 ≤ k
  k6 : k ≤ 6
  rows : ∀ l ∈ M, l.length = k
  bd : ∀ l ∈ M, ∀ x ∈ l, -1000 ≤ x ∧ x ≤ 1000
theorem pchk_ok {M : List (List Int)} (h : pchk M = 0) : Pay M.length (M.getD 0 []).length M := by
  unfold pchk at h
  by_cases h1 : M.length = 0 ∨ 6 < M.length
  · rw [if_pos h1] at h; cases h
  · rw [if_neg h1] at h
    have h2 := firstPay_zero.1 h
    have h3 := payErr_zero.1 (h2 _ (memR (M := M) (x := 0) (by omega)))
    exact ⟨rfl, by omega, by omega, h3.2.1.1, h3.2.1.2, fun l hl => (payErr_zero.1 (h2 l hl)).1, fun l hl => (payErr_zero.1 (h2 l hl)).2.2⟩
theorem Pay.head {r k : Nat} {M : List (List Int)} (p : Pay r k M) : (M.getD 0 []).length = k := p.rows _ (memR (by rw [p.len]; exact p.r1))
theorem Pay.chk {r k : Nat} {M : List (List Int)} (p : Pay r k M) : pchk M = 0 := by
  have h1 := p.r1
  have h2 := p.r6
  unfold pchk
  rw [if_neg (by rw [p.len]; omega), p.head]
  exact firstPay_zero.2 (fun l hl => payErr_zero.2 ⟨p.rows l hl, ⟨p.k1, p.k6⟩, p.bd l hl⟩)
theorem Pay.row {r k : Nat} {M : List (List Int)} (p : Pay r k M) {x : Nat} (hx : x < r) : (M.getD x []).length = k := p.rows _ (memR (by rw [p.len]; exact hx))
theorem Pay.ent {r k : Nat} {M : List (List Int)} (p : Pay r k M) (x y : Nat) : -1000 ≤ ent M x y ∧ ent M x y ≤ 1000 := by
  unfold Fm.ent
  by_cases hx : x < M.length
  · by_cases hy : y < (M.getD x []).length
    · exact p.bd _ (memR hx) _ (getD_mem _ y hy)
    · rw [List.getD_eq_getElem?_getD (i := y), List.getElem?_eq_none (by omega)]
      decide
  · have : M.getD x [] = [] := by rw [List.getD_eq_getElem?_getD, List.getElem?_eq_none (by omega)]; rfl
    rw [this]
    simp

/-- The least of a list. -/
def leastI (l : List Int) : Int := l.foldl min (l.headD 0)
theorem foldl_min_mem (l : List Int) (a : Int) : l.foldl min a = a ∨ l.foldl min a ∈ l := by
  induction l generalizing a with
  | nil => exact .inl rfl
  | cons x l ih =>
    rw [List.foldl_cons]
    rcases ih (min a x) with h | h
    · rw [h]
      by_cases q : a ≤ x
      · left; omega
      · right; have : min a x = x := by omega
        rw [this]; simp
    · right; simp [h]
theorem foldl_min_le (l : List Int) (a : Int) : l.foldl min a ≤ a ∧ ∀ x ∈ l, l.foldl min a ≤ x := by
  induction l generalizing a with
  | nil => exact ⟨Int.le_refl _, fun x h => by cases h⟩
  | cons y l ih =>
    rw [List.foldl_cons]
    obtain ⟨h1, h2⟩ := ih (min a y)
    refine ⟨by omega, fun x hx => ?_⟩
    rcases List.mem_cons.1 hx with rfl | hx
    · omega
    · exact h2 x hx
theorem least_mem {l : List Int} (h : 0 < l.length) : leastI l ∈ l := by
  cases l with
  | nil => cases h
  | cons x l =>
    unfold leastI
    rcases foldl_min_mem (x :: l) x with q | q
    · show List.foldl min x (x :: l) ∈ _
      rw [q]; simp
    · exact q
theorem least_le {l : List Int} {x : Int} (h : x ∈ l) : leastI l ≤ x := (foldl_min_le l _).2 x h
theorem most_leM {l : List Int} {x : Int} (h : x ∈ l) : x ≤ most l := by
  obtain ⟨k, hk, rfl⟩ := List.getElem_of_mem h
  rw [← getD_get hk]
  exact most_ge hk
theorem least_eq {l : List Int} {v : Int} (h1 : v ∈ l) (h2 : ∀ x ∈ l, v ≤ x) : leastI l = v := by
  have h0 : 0 < l.length := List.length_pos_of_mem h1
  have := h2 _ (least_mem h0)
  have := least_le h1
  omega
theorem most_eq {l : List Int} {v : Int} (h1 : v ∈ l) (h2 : ∀ x ∈ l, x ≤ v) : most l = v := by
  have h0 : 0 < l.length := List.length_pos_of_mem h1
  have := h2 _ (most_mem h0)
  have := most_leM h1
  omega
theorem least_neg {l : List Int} (h : 0 < l.length) : leastI (l.map fun x => -x) = -most l := least_eq (List.mem_map.2 ⟨_, most_mem h, rfl⟩) (fun x hx => by
  obtain ⟨y, hy, rfl⟩ := List.mem_map.1 hx
  have := most_leM hy
  omega)
theorem most_neg {l : List Int} (h : 0 < l.length) : most (l.map fun x => -x) = -leastI l := most_eq (List.mem_map.2 ⟨_, least_mem h, rfl⟩) (fun x hx => by
  obtain ⟨y, hy, rfl⟩ := List.mem_map.1 hx
  have := least_le hy
  omega)

/-- The columns. -/
def colL (M : List (List Int)) (y : Nat) : List Int := M.map fun l => l.getD y 0
def colsM (k : Nat) (M : List (List Int)) : List (List Int) := (List.range k).map (colL M)
theorem colL_len (M : List (List Int)) (y : Nat) : (colL M y).length = M.length := by simp [colL]
theorem colL_at {M : List (List Int)} {x : Nat} (y : Nat) (hx : x < M.length) : (colL M y).getD x 0 = ent M x y := by
  unfold colL ent
  rw [List.getD_eq_getElem?_getD, List.getElem?_map, List.getD_eq_getElem?_getD (l := M), List.getElem?_eq_getElem hx]
  rfl
theorem colsM_len (k : Nat) (M : List (List Int)) : (colsM k M).length = k := by simp [colsM]
theorem colsM_at {k : Nat} {M : List (List Int)} {y : Nat} (hy : y < k) : (colsM k M).getD y [] = colL M y := by
  unfold colsM
  rw [List.getD_eq_getElem?_getD, List.getElem?_map, List.getElem?_range hy]
  rfl
theorem colsM_rows {k : Nat} {M : List (List Int)} {l : List Int} (h : l ∈ colsM k M) : l.length = M.length := by
  unfold colsM at h
  obtain ⟨y, _, rfl⟩ := List.mem_map.1 h
  exact colL_len M y
def rmin (M : List (List Int)) (x : Nat) : Int := leastI (M.getD x [])
def cmax (M : List (List Int)) (y : Nat) : Int := most (colL M y)
/-- What the one is sure of; what the other one can hold him to. -/
def loB (M : List (List Int)) : Int := most (M.map leastI)
def hiB (k : Nat) (M : List (List Int)) : Int := leastI ((colsM k M).map most)
section
variable {r k : Nat} {M : List (List Int)}
theorem rmin_le (p : Pay r k M) {x y : Nat} (hx : x < r) (hy : y < k) : rmin M x ≤ ent M x y := least_le (getD_mem _ y (by rw [p.row hx]; exact hy))
theorem rmin_at (p : Pay r k M) {x : Nat} (hx : x < r) : ∃ y, y < k ∧ ent M x y = rmin M x := by
  have h := least_mem (l := M.getD x []) (by rw [p.row hx]; exact p.k1)
  obtain ⟨y, hy, e⟩ := List.getElem_of_mem h
  rw [p.row hx] at hy
  exact ⟨y, hy, by unfold ent; rw [getD_get (by rw [p.row hx]; exact hy)]; exact e⟩
theorem cmax_ge (p : Pay r k M) {x : Nat} (y : Nat) (hx : x < r) : ent M x y ≤ cmax M y := by
  rw [← colL_at y (by rw [p.len]; exact hx)]
  exact most_ge (by rw [colL_len, p.len]; exact hx)
theorem cmax_at (p : Pay r k M) (y : Nat) : ∃ x, x < r ∧ ent M x y = cmax M y := by
  have h := most_mem (l := colL M y) (by rw [colL_len, p.len]; exact p.r1)
  obtain ⟨x, hx, e⟩ := List.getElem_of_mem h
  rw [colL_len, p.len] at hx
  exact ⟨x, hx, by rw [← colL_at y (by rw [p.len]; exact hx), getD_get (by rw [colL_len, p.len]; exact hx)]; exact e⟩
theorem lo_at (p : Pay r k M) : (∃ x, x < r ∧ rmin M x = loB M) ∧ ∀ x, x < r → rmin M x ≤ loB M := by
  have hl : (M.map leastI).length = r := by rw [List.length_map, p.len]
  have hg : ∀ x, x < r → (M.map leastI).getD x 0 = rmin M x := fun x hx => by
    unfold rmin
    rw [List.getD_eq_getElem?_getD, List.getElem?_map, List.getD_eq_getElem?_getD (l := M), List.getElem?_eq_getElem (by rw [p.len]; exact hx)]
    rfl
  constructor
  · obtain ⟨x, hx, e⟩ := List.getElem_of_mem (most_mem (l := M.map leastI) (by rw [hl]; exact p.r1))
    rw [hl] at hx
    exact ⟨x, hx, by rw [← hg x hx, getD_get (by rw [hl]; exact hx)]; exact e⟩
  · intro x hx
    rw [← hg x hx]
    exact most_ge (by rw [hl]; exact hx)
theorem hi_at (p : Pay r k M) : (∃ y, y < k ∧ cmax M y = hiB k M) ∧ ∀ y, y < k → hiB k M ≤ cmax M y := by
  have hl : ((colsM k M).map most).length = k := by rw [List.length_map, colsM_len]
  have hg : ∀ y, y < k → ((colsM k M).map most).getD y 0 = cmax M y := fun y hy => by
    unfold cmax
    rw [← colsM_at hy, List.getD_eq_getElem?_getD, List.getElem?_map, List.getD_eq_getElem?_getD (l := colsM k M), List.getElem?_eq_getElem (by rw [colsM_len]; exact hy)]
    rfl
  constructor
  · obtain ⟨y, hy, e⟩ := List.getElem_of_mem (least_mem (l := (colsM k M).map most) (by rw [hl]; exact p.k1))
    rw [hl] at hy
    exact ⟨y, hy, by rw [← hg y hy, getD_get (by rw [hl]; exact hy)]; exact e⟩
  · intro y hy
    rw [← hg y hy]
    exact least_le (getD_mem _ y (by rw [hl]; exact hy))
theorem lo_bd (p : Pay r k M) : -1000 ≤ loB M ∧ loB M ≤ 1000 := by
  obtain ⟨x, hx, e⟩ := (lo_at p).1
  obtain ⟨y, hy, e2⟩ := rmin_at p hx
  have := p.ent x y
  omega
theorem hi_bd (p : Pay r k M) : -1000 ≤ hiB k M ∧ hiB k M ≤ 1000 := by
  obtain ⟨y, hy, e⟩ := (hi_at p).1
  obtain ⟨x, hx, e2⟩ := cmax_at p y
  have := p.ent x y
  omega
theorem lo_hi (p : Pay r k M) : loB M ≤ hiB k M := by
  obtain ⟨x, hx, e⟩ := (lo_at p).1
  obtain ⟨y, hy, e2⟩ := (hi_at p).1
  have := rmin_le p hx hy
  have := cmax_ge p y hx
  omega

/-- A point: the least of its row, the greatest of its column. -/
def isPt (M : List (List Int)) (x y : Nat) : Bool := decide (ent M x y = rmin M x) && decide (ent M x y = cmax M y)
def ptI (M : List (List Int)) (x : Nat) : Nat → List (Int × Int)
  | 0 => []
  | j + 1 => ptI M x j ++ if isPt M x j = true then [((x : Int), (j : Int))] else []
def ptA (M : List (List Int)) (k : Nat) : Nat → List (Int × Int)
  | 0 => []
  | i + 1 => ptA M k i ++ ptI M i k
theorem mem_ptI {x : Nat} {b : Int × Int} : ∀ j, b ∈ ptI M x j ↔ ∃ y, y < j ∧ isPt M x y = true ∧ b = ((x : Int), (y : Int)) := by
  intro j
  induction j with
  | zero => simp [ptI]
  | succ j ih =>
    rw [ptI, List.mem_append, ih]
    constructor
    · rintro (⟨y, h1, h2, h3⟩ | h)
      · exact ⟨y, by omega, h2, h3⟩
      · by_cases q : isPt M x j = true
        · rw [if_pos q] at h; exact ⟨j, by omega, q, by simpa using h⟩
        · rw [if_neg q] at h; cases h
    · rintro ⟨y, h1, h2, h3⟩
      by_cases q : y = j
      · subst q; right; rw [if_pos h2, h3]; simp
      · left; exact ⟨y, by omega, h2, h3⟩
theorem mem_ptA {b : Int × Int} : ∀ i, b ∈ ptA M k i ↔ ∃ x y, x < i ∧ y < k ∧ isPt M x y = true ∧ b = ((x : Int), (y : Int)) := by
  intro i
  induction i with
  | zero => simp [ptA]
  | succ i ih =>
    rw [ptA, List.mem_append, ih, mem_ptI]
    constructor
    · rintro (⟨x, y, h1, h2, h3, h4⟩ | ⟨y, h1, h2, h3⟩)
      · exact ⟨x, y, by omega, h2, h3, h4⟩
      · exact ⟨i, y, by omega, h1, h2, h3⟩
    · rintro ⟨x, y, h1, h2, h3, h4⟩
      by_cases q : x = i
      · subst q; right; exact ⟨y, h2, h3, h4⟩
      · left; exact ⟨x, y, by omega, h2, h3, h4⟩
theorem ptI_len (x : Nat) : ∀ j, (ptI M x j).length ≤ j := by
  intro j
  induction j with
  | zero => exact Nat.le_refl _
  | succ j ih =>
    rw [ptI, List.length_append]
    have : (if isPt M x j = true then [((x : Int), (j : Int))] else []).length ≤ 1 := by split <;> simp
    omega
theorem ptA_len : ∀ i, (ptA M k i).length ≤ i * k := by
  intro i
  induction i with
  | zero => simp [ptA]
  | succ i ih => rw [ptA, List.length_append, Nat.succ_mul]; have := ptI_len (M := M) i k; omega
theorem pt_val (p : Pay r k M) {x y : Nat} (hx : x < r) (hy : y < k) (h : isPt M x y = true) : ent M x y = loB M ∧ loB M = hiB k M ∧ rmin M x = loB M ∧ cmax M y = hiB k M := by
  unfold isPt at h
  simp only [Bool.and_eq_true, decide_eq_true_eq] at h
  have h1 := (lo_at p).2 x hx
  have h2 := (hi_at p).2 y hy
  have h3 := lo_hi p
  omega
theorem pt_of (p : Pay r k M) {x y : Nat} (hx : x < r) (hy : y < k) (h1 : rmin M x = loB M) (h2 : cmax M y = hiB k M) (h : loB M = hiB k M) : isPt M x y = true := by
  have h3 := rmin_le p hx hy
  have h4 := cmax_ge p y hx
  unfold isPt
  simp only [Bool.and_eq_true, decide_eq_true_eq]
  omega
theorem pt_some (p : Pay r k M) : loB M = hiB k M ↔ 0 < (ptA M k r).length := by
  constructor
  · intro h
    obtain ⟨x, hx, e⟩ := (lo_at p).1
    obtain ⟨y, hy, e2⟩ := (hi_at p).1
    exact List.length_pos_of_mem ((mem_ptA r).2 ⟨x, y, hx, hy, pt_of p hx hy e e2 h, rfl⟩)
  · intro h
    obtain ⟨b, hb⟩ := List.exists_mem_of_length_pos h
    obtain ⟨x, y, hx, hy, hp, _⟩ := (mem_ptA r).1 hb
    exact (pt_val p hx hy hp).2.1
theorem pt_swap (p : Pay r k M) {x y x' y' : Nat} (hx : x < r) (hy : y < k) (hx' : x' < r) (hy' : y' < k) (h : isPt M x y = true) (h' : isPt M x' y' = true) : isPt M x y' = true := by
  have a := pt_val p hx hy h
  have b := pt_val p hx' hy' h'
  exact pt_of p hx hy' a.2.2.1 b.2.2.2 a.2.1

/-- The game as the other one sees it. -/
def turnT (k : Nat) (M : List (List Int)) : List (List Int) := (colsM k M).map fun c => c.map fun x => -x
theorem turnT_len (k : Nat) (M : List (List Int)) : (turnT k M).length = k := by simp [turnT, colsM_len]
theorem turnT_at {y : Nat} (hy : y < k) : (turnT k M).getD y [] = (colL M y).map fun x => -x := by
  unfold turnT
  rw [List.getD_eq_getElem?_getD, List.getElem?_map, ← colsM_at hy, List.getD_eq_getElem?_getD (l := colsM k M), List.getElem?_eq_getElem (by rw [colsM_len]; exact hy)]
  rfl
theorem turnT_ent (p : Pay r k M) {x y : Nat} (hx : x < r) (hy : y < k) : ent (turnT k M) y x = -ent M x y := by
  rw [← colL_at y (by rw [p.len]; exact hx)]
  unfold ent
  rw [turnT_at hy, List.getD_eq_getElem?_getD, List.getElem?_map, List.getD_eq_getElem?_getD (l := colL M y), List.getElem?_eq_getElem (by rw [colL_len, p.len]; exact hx)]
  rfl
theorem turn_pay (p : Pay r k M) : Pay k r (turnT k M) := by
  refine ⟨turnT_len k M, p.k1, p.k6, p.r1, p.r6, fun l hl => ?_, fun l hl x hx => ?_⟩
  · unfold turnT at hl
    obtain ⟨c, hc, rfl⟩ := List.mem_map.1 hl
    rw [List.length_map, colsM_rows hc, p.len]
  · unfold turnT at hl
    obtain ⟨c, hc, rfl⟩ := List.mem_map.1 hl
    obtain ⟨z, hz, rfl⟩ := List.mem_map.1 hx
    unfold colsM at hc
    obtain ⟨y, _, rfl⟩ := List.mem_map.1 hc
    obtain ⟨i, hi, rfl⟩ := List.getElem_of_mem hz
    have := p.ent i y
    rw [← getD_get hi, colL_at y (by rw [colL_len] at hi; exact hi)]
    omega
theorem rmin_eq (p : Pay r k M) {x : Nat} {v : Int} (hx : x < r) (h1 : ∃ y, y < k ∧ ent M x y = v) (h2 : ∀ y, y < k → v ≤ ent M x y) : rmin M x = v := by
  obtain ⟨y, hy, e⟩ := h1
  have := rmin_le p hx hy
  obtain ⟨z, hz, e2⟩ := rmin_at p hx
  have := h2 z hz
  omega
theorem cmax_eq (p : Pay r k M) {y : Nat} {v : Int} (h1 : ∃ x, x < r ∧ ent M x y = v) (h2 : ∀ x, x < r → ent M x y ≤ v) : cmax M y = v := by
  obtain ⟨x, hx, e⟩ := h1
  have := cmax_ge p y hx
  obtain ⟨z, hz, e2⟩ := cmax_at p y
  have := h2 z hz
  omega
theorem lo_eq (p : Pay r k M) {v : Int} (h1 : ∃ x, x < r ∧ rmin M x = v) (h2 : ∀ x, x < r → rmin M x ≤ v) : loB M = v := by
  obtain ⟨x, hx, e⟩ := h1
  have := (lo_at p).2 x hx
  obtain ⟨z, hz, e2⟩ := (lo_at p).1
  have := h2 z hz
  omega
theorem hi_eq (p : Pay r k M) {v : Int} (h1 : ∃ y, y < k ∧ cmax M y = v) (h2 : ∀ y, y < k → v ≤ cmax M y) : hiB k M = v := by
  obtain ⟨y, hy, e⟩ := h1
  have := (hi_at p).2 y hy
  obtain ⟨z, hz, e2⟩ := (hi_at p).1
  have := h2 z hz
  omega
theorem turn_rmin (p : Pay r k M) {y : Nat} (hy : y < k) : rmin (turnT k M) y = -cmax M y := by
  refine rmin_eq (turn_pay p) hy ?_ (fun x hx => ?_)
  · obtain ⟨x, hx, e⟩ := cmax_at p y
    exact ⟨x, hx, by rw [turnT_ent p hx hy, e]⟩
  · have := cmax_ge p y hx
    rw [turnT_ent p hx hy]; omega
theorem turn_cmax (p : Pay r k M) {x : Nat} (hx : x < r) : cmax (turnT k M) x = -rmin M x := by
  refine cmax_eq (turn_pay p) ?_ (fun y hy => ?_)
  · obtain ⟨y, hy, e⟩ := rmin_at p hx
    exact ⟨y, hy, by rw [turnT_ent p hx hy, e]⟩
  · have := rmin_le p hx hy
    rw [turnT_ent p hx hy]; omega
theorem turn_lo (p : Pay r k M) : loB (turnT k M) = -hiB k M := by
  refine lo_eq (turn_pay p) ?_ (fun y hy => ?_)
  · obtain ⟨y, hy, e⟩ := (hi_at p).1
    exact ⟨y, hy, by rw [turn_rmin p hy, e]⟩
  · have := (hi_at p).2 y hy
    rw [turn_rmin p hy]; omega
theorem turn_hi (p : Pay r k M) : hiB r (turnT k M) = -loB M := by
  refine hi_eq (turn_pay p) ?_ (fun x hx => ?_)
  · obtain ⟨x, hx, e⟩ := (lo_at p).1
    exact ⟨x, hx, by rw [turn_cmax p hx, e]⟩
  · have := (lo_at p).2 x hx
    rw [turn_cmax p hx]; omega
theorem turn_pt (p : Pay r k M) {x y : Nat} (hx : x < r) (hy : y < k) : isPt (turnT k M) y x = isPt M x y := by
  unfold isPt
  rw [turnT_ent p hx hy, turn_rmin p hy, turn_cmax p hx, Bool.and_comm]
  congr 1
  · exact decide_eq_decide.2 ⟨fun h => by omega, fun h => by omega⟩
  · exact decide_eq_decide.2 ⟨fun h => by omega, fun h => by omega⟩
theorem ext_ent {A B : List (List Int)} (pA : Pay r k A) (pB : Pay r k B) (h : ∀ x y, x < r → y < k → ent A x y = ent B x y) : A = B := by
  apply List.ext_getElem (by rw [pA.len, pB.len])
  intro x h1 h2
  have hx : x < r := by rw [pA.len] at h1; exact h1
  have e1 : A.getD x [] = A[x] := by rw [List.getD_eq_getElem?_getD, List.getElem?_eq_getElem h1]; rfl
  have e2 : B.getD x [] = B[x] := by rw [List.getD_eq_getElem?_getD, List.getElem?_eq_getElem h2]; rfl
  have l1 := pA.row hx
  have l2 := pB.row hx
  rw [e1] at l1
  rw [e2] at l2
  apply List.ext_getElem (by rw [l1, l2])
  intro y h3 h4
  have := h x y hx (by omega)
  unfold ent at this
  rw [e1, e2, getD_get h3, getD_get h4] at this
  exact this
theorem turn_turn (p : Pay r k M) : turnT r (turnT k M) = M := ext_ent (turn_pay (turn_pay p)) p (fun x y hx hy => by
  rw [turnT_ent (turn_pay p) hy hx, turnT_ent p hx hy, Int.neg_neg])
theorem nodup_ptI (x : Nat) : ∀ j, (ptI M x j).Nodup := by
  intro j
  induction j with
  | zero => exact List.nodup_nil
  | succ j ih =>
    rw [ptI, List.nodup_append]
    refine ⟨ih, by split <;> simp, fun a ha b hb => ?_⟩
    obtain ⟨y, h1, _, rfl⟩ := (mem_ptI j).1 ha
    by_cases q : isPt M x j = true
    · rw [if_pos q] at hb
      rw [List.mem_singleton] at hb
      subst hb
      intro e
      injection e with _ e
      omega
    · rw [if_neg q] at hb; cases hb
theorem nodup_ptA : ∀ i, (ptA M k i).Nodup := by
  intro i
  induction i with
  | zero => exact List.nodup_nil
  | succ i ih =>
    rw [ptA, List.nodup_append]
    refine ⟨ih, nodup_ptI i k, fun a ha b hb => ?_⟩
    obtain ⟨x, y, h1, _, _, rfl⟩ := (mem_ptA i).1 ha
    obtain ⟨y', _, _, rfl⟩ := (mem_ptI k).1 hb
    intro e
    injection e with e _
    omega
theorem turn_mem (p : Pay r k M) (x y : Int) : (y, x) ∈ ptA (turnT k M) r k ↔ (x, y) ∈ ptA M k r := by
  rw [mem_ptA, mem_ptA]
  constructor
  · rintro ⟨b, a, hb, ha, h, e⟩
    injection e with e1 e2
    exact ⟨a, b, ha, hb, by rw [← turn_pt p ha hb]; exact h, by rw [e1, e2]⟩
  · rintro ⟨a, b, ha, hb, h, e⟩
    injection e with e1 e2
    exact ⟨b, a, hb, ha, by rw [turn_pt p ha hb]; exact h, by rw [e1, e2]⟩
theorem turn_ptlen (p : Pay r k M) : (ptA (turnT k M) r k).length = (ptA M k r).length := by
  have h : ((ptA M k r).map fun b => (b.2, b.1)).Perm (ptA (turnT k M) r k) := by
    refine (List.perm_ext_iff_of_nodup ?_ (nodup_ptA k)).2 (fun b => ?_)
    · unfold List.Nodup
      rw [List.pairwise_map]
      refine List.Pairwise.imp ?_ (nodup_ptA (M := M) (k := k) r)
      intro a b hab e
      injection e with e1 e2
      exact hab (Prod.ext e2 e1)
    · obtain ⟨y, x⟩ := b
      rw [turn_mem p x y, List.mem_map]
      constructor
      · rintro ⟨⟨a, b⟩, hab, e⟩
        injection e with e1 e2
        dsimp only at e1 e2
        subst e1; subst e2
        exact hab
      · intro h; exact ⟨(x, y), h, rfl⟩
  have := h.length_eq
  rw [List.length_map] at this
  exact this.symm
end
end Fm

/-
  Orders along a line (single-peaked ones), the one in the middle, and Black's theorems: lists of ints alone, no Go text.
-/
import Derived.Test.YthcaipnlgbnfkaaPureA
namespace Fm
set_option linter.unusedVariables false

/-- The j-th of the line is after the i-th and after the k-th in p. -/
def lastB (line p : List Int) (i j k : Nat) : Bool := decide (pos p (line.getD i 0) < pos p (line.getD j 0) ∧ pos p (line.getD k 0) < pos p (line.getD j 0))
def alongB (line p : List Int) : Bool := (List.range line.length).all fun k => (List.range k).all fun j => (List.range j).all fun i => !lastB line p i j k
/-- p is single-peaked along the line. -/
def Along (line p : List Int) : Prop := ∀ i j k, i < j → j < k → k < line.length → lastB line p i j k = false
theorem along_iff {line p : List Int} : alongB line p = true ↔ Along line p := by
  unfold alongB Along
  simp only [List.all_eq_true, List.mem_range, Bool.not_eq_true']
  exact ⟨fun h i j k hi hj hk => h k hk j hj i hi, fun h k hk j hj i hi => h i j k hi hj hk⟩
theorem along_not {line p : List Int} {i j k : Nat} (hi : i < j) (hj : j < k) (hk : k < line.length) (h : lastB line p i j k = true) : alongB line p = false := by
  cases hh : alongB line p with
  | false => rfl
  | true => rw [along_iff.1 hh i j k hi hj hk] at h; cases h
theorem Along.not_last {line p : List Int} (h : Along line p) {i j k : Nat} (hi : i < j) (hj : j < k) (hk : k < line.length) : ¬ (pos p (line.getD i 0) < pos p (line.getD j 0) ∧ pos p (line.getD k 0) < pos p (line.getD j 0)) :=
  of_decide_eq_false (h i j k hi hj hk)

section
variable {n : Nat} {line p : List Int}
theorem perm_len (h : p.Perm (sides n)) : p.length = n := by have := h.length_eq; rwa [sides_len] at this
theorem perm_nodup (h : p.Perm (sides n)) : p.Nodup := h.nodup_iff.2 (sides_nodup n)
/-- Between: m lies between a and c on the line: who has a ahead of m has a ahead of c. -/
theorem Along.ahead (hl : line.Perm (sides n)) (h : Along line p) {a m c : Int} (ha : a ∈ line) (hm : m ∈ line) (hc : c ∈ line)
    (hb : (pos line a < pos line m ∧ pos line m < pos line c) ∨ (pos line c < pos line m ∧ pos line m < pos line a)) (hp : pos p a < pos p m) : pos p a < pos p c := by
  have hnd := perm_nodup hl
  obtain ⟨i, hi, hia, hpa⟩ := pos_mem hnd ha
  obtain ⟨j, hj, hjm, hpm⟩ := pos_mem hnd hm
  obtain ⟨k, hk, hkc, hpc⟩ := pos_mem hnd hc
  rw [hpa, hpm, hpc] at hb
  rcases hb with hb | hb
  · have := h.not_last (i := i) (j := j) (k := k) (by omega) (by omega) hk
    rw [hia, hjm, hkc] at this
    omega
  · have := h.not_last (i := k) (j := j) (k := i) (by omega) (by omega) hi
    rw [hia, hjm, hkc] at this
    omega
theorem cnt_ahead (hl : line.Perm (sides n)) {V : List (List Int)} (hV : ∀ p ∈ V, Along line p) {a m c : Int} (ha : a ∈ line) (hm : m ∈ line) (hc : c ∈ line)
    (hb : (pos line a < pos line m ∧ pos line m < pos line c) ∨ (pos line c < pos line m ∧ pos line m < pos line a)) : cnt V a m ≤ cnt V a c := by
  unfold cnt
  apply List.countP_mono_left
  intro p hp h
  exact decide_eq_true ((hV p hp).ahead hl ha hm hc hb (of_decide_eq_true h))
/-- Black: of an odd number of votes along a line, to beat goes on over a third. -/
theorem peak_order (hl : line.Perm (sides n)) {V : List (List Int)} (hVp : ∀ p ∈ V, p.Perm (sides n)) (hV : ∀ p ∈ V, Along line p) (hodd : V.length % 2 = 1) {a b c : Nat} (ha : a < n) (hb : b < n) (hc : c < n) (hac : a ≠ c)
    (h1 : cnt V b a < cnt V a b) (h2 : cnt V c b < cnt V b c) : cnt V c a < cnt V a c := by
  have hab : a ≠ b := fun e => by subst e; omega
  have hbc : b ≠ c := fun e => by subst e; omega
  have e1 := duel_both hVp ha hb hab
  have e2 := duel_both hVp hb hc hbc
  have e3 := duel_both hVp ha hc hac
  have mem : ∀ x : Nat, x < n → (x : Int) ∈ line := fun x hx => hl.mem_iff.2 (mem_sides.2 ⟨by omega, by omega⟩)
  have hnd := perm_nodup hl
  have ne : ∀ x y : Nat, x < n → y < n → x ≠ y → pos line x ≠ pos line y := fun x y hx hy hxy e => hxy (by have := pos_inj hnd (mem x hx) (mem y hy) e; omega)
  have n1 := ne a b ha hb hab
  have n2 := ne b c hb hc hbc
  have n3 := ne a c ha hc hac
  by_cases q : cnt V c a < cnt V a c
  · exact q
  · exfalso
    by_cases m1 : (pos line a < pos line b ∧ pos line b < pos line c) ∨ (pos line c < pos line b ∧ pos line b < pos line a)
    · have := cnt_ahead hl hV (mem a ha) (mem b hb) (mem c hc) m1; omega
    · by_cases m2 : (pos line b < pos line c ∧ pos line c < pos line a) ∨ (pos line a < pos line c ∧ pos line c < pos line b)
      · have := cnt_ahead hl hV (mem b hb) (mem c hc) (mem a ha) m2; omega
      · have m3 : (pos line c < pos line a ∧ pos line a < pos line b) ∨ (pos line b < pos line a ∧ pos line a < pos line c) := by omega
        have := cnt_ahead hl hV (mem c hc) (mem a ha) (mem b hb) m3; omega
end

/-- The first of the list, s counted before it, with which half of N have come. -/
def midF (V : List (List Int)) (N : Nat) : Nat → List Int → Int
  | s, [] => -1
  | s, x :: t => if N ≤ 2 * (s + fst1 V x) then x else midF V N (s + fst1 V x) t
/-- The one in the middle. -/
def midL (line : List Int) (V : List (List Int)) : Int := midF V V.length 0 line
/-- How many votes have one of the first k of the line ahead. -/
def upto (line : List Int) (V : List (List Int)) (k : Nat) : Nat := tot (line.take k) (fst1 V)
theorem upto_zero (line : List Int) (V : List (List Int)) : upto line V 0 = 0 := rfl
theorem upto_succ {line : List Int} {k : Nat} (hk : k < line.length) (V : List (List Int)) : upto line V (k + 1) = upto line V k + fst1 V (line.getD k 0) := by
  unfold upto; rw [take_succ_getD line k hk, tot_append, tot_cons, tot_nil]; rfl
theorem midF_at {V : List (List Int)} {N : Nat} : ∀ (t : List Int) (s k : Nat), k < t.length → N ≤ 2 * (s + tot (t.take (k + 1)) (fst1 V)) → (∀ j, j < k → 2 * (s + tot (t.take (j + 1)) (fst1 V)) < N) → midF V N s t = t.getD k 0 := by
  intro t
  induction t with
  | nil => intro s k hk; simp at hk
  | cons x t ih =>
    intro s k hk h1 h2
    rw [midF]
    cases k with
    | zero =>
      rw [List.take_succ_cons, List.take_zero, tot_cons, tot_nil] at h1
      rw [if_pos (by omega)]; rfl
    | succ k =>
      have h3 := h2 0 (by omega)
      rw [List.take_succ_cons, List.take_zero, tot_cons, tot_nil] at h3
      rw [if_neg (by omega)]
      have := ih (s + fst1 V x) k (by simpa using hk) (by rw [List.take_succ_cons, tot_cons] at h1; omega) (fun j hj => by
        have := h2 (j + 1) (by omega)
        rw [List.take_succ_cons, tot_cons] at this
        omega)
      rw [this]; simp
theorem mid_at {line : List Int} {V : List (List Int)} {k : Nat} (hk : k < line.length) (h1 : V.length ≤ 2 * upto line V (k + 1)) (h2 : ∀ j, j < k → 2 * upto line V (j + 1) < V.length) : midL line V = line.getD k 0 := by
  unfold midL
  exact midF_at line 0 k hk (by unfold upto at h1; omega) (fun j hj => by have := h2 j hj; unfold upto at this; omega)
section
variable {n : Nat} {line : List Int} {V : List (List Int)}
theorem upto_all (hl : line.Perm (sides n)) (h1 : 1 ≤ n) (hV : ∀ p ∈ V, p.Perm (sides n)) : upto line V n = V.length := by
  unfold upto
  rw [List.take_of_length_le (by rw [perm_len hl]; exact Nat.le_refl _), tot_perm hl]
  exact sum_firsts h1 hV
theorem mid_has (hl : line.Perm (sides n)) (h1 : 1 ≤ n) (hV : ∀ p ∈ V, p.Perm (sides n)) : ∃ k, k < n ∧ V.length ≤ 2 * upto line V (k + 1) ∧ (∀ j, j < k → 2 * upto line V (j + 1) < V.length) := by
  have h : ∀ m, m ≤ n → (∃ k, k < m ∧ V.length ≤ 2 * upto line V (k + 1) ∧ (∀ j, j < k → 2 * upto line V (j + 1) < V.length)) ∨ ∀ j, j < m → 2 * upto line V (j + 1) < V.length := by
    intro m
    induction m with
    | zero => intro _; exact .inr fun j hj => absurd hj (by omega)
    | succ m ih =>
      intro hm
      rcases ih (by omega) with ⟨k, hk, r⟩ | h2
      · exact .inl ⟨k, by omega, r⟩
      · by_cases h3 : V.length ≤ 2 * upto line V (m + 1)
        · exact .inl ⟨m, by omega, h3, h2⟩
        · refine .inr fun j hj => ?_
          by_cases e : j = m
          · subst e; omega
          · exact h2 j (by omega)
  rcases h n (Nat.le_refl _) with h | h
  · exact h
  · have h2 := h (n - 1) (by omega)
    rw [show n - 1 + 1 = n by omega, upto_all hl h1 hV] at h2
    omega
theorem tot_mem {S : List Int} {φ : Int → Nat} {x : Int} (h : x ∈ S) : φ x ≤ tot S φ := by
  induction S with
  | nil => cases h
  | cons y S ih =>
    rw [tot_cons]
    rcases List.mem_cons.1 h with h | h
    · subst h; omega
    · have := ih h; omega
theorem cnt_consN (p : List Int) (V : List (List Int)) (x y : Int) : cnt (p :: V) x y = cnt V x y + if pos p x < pos p y then 1 else 0 := by
  unfold cnt; rw [List.countP_cons]; simp
theorem fst1_consN (p : List Int) (V : List (List Int)) (x : Int) : fst1 (p :: V) x = fst1 V x + if pos p x = 0 then 1 else 0 := by
  unfold fst1; rw [List.countP_cons]; simp
theorem upto_cons (p : List Int) (V : List (List Int)) (k : Nat) : upto line (p :: V) k = upto line V k + tot (line.take k) (fun x => if pos p x = 0 then 1 else 0) := by
  unfold upto
  rw [← tot_add]
  exact tot_congr fun x _ => fst1_consN p V x
theorem mem_takeK (hl : line.Perm (sides n)) {x : Int} (hx : x ∈ line) {k : Nat} (hk : k ≤ n) : x ∈ line.take k ↔ pos line x < k := by
  have hnd := perm_nodup hl
  have hln := perm_len hl
  obtain ⟨i, hi, hix, hpi⟩ := pos_mem hnd hx
  rw [hpi]
  constructor
  · intro h
    obtain ⟨j, hj, hjx⟩ := List.getElem_of_mem h
    rw [List.length_take] at hj
    rw [List.getElem_take] at hjx
    have : pos line (line.getD j 0) = j := pos_idx hnd (by omega)
    rw [getD_get (by omega), hjx, hpi] at this
    omega
  · intro h
    rw [← hix, List.mem_iff_getElem]
    exact ⟨i, by rw [List.length_take]; omega, by rw [List.getElem_take, getD_get hi]⟩
/-- The first of an order. -/
theorem top_of {p : List Int} (hp : p.Perm (sides n)) (h1 : 1 ≤ n) : p.getD 0 0 ∈ sides n ∧ pos p (p.getD 0 0) = 0 ∧ ∀ x ∈ sides n, pos p x = 0 → x = p.getD 0 0 := by
  have hnd := perm_nodup hp
  have hln := perm_len hp
  have hm : p.getD 0 0 ∈ p := getD_mem p 0 (by omega)
  have h0 := pos_idx hnd (k := 0) (by omega)
  exact ⟨hp.mem_iff.1 hm, h0, fun x hx e => pos_inj hnd (hp.mem_iff.2 hx) hm (by rw [e, h0]; rfl)⟩
/-- The votes for the K-th of the line against one to its left: all but those whose first is to the left of the K-th. -/
theorem black_left (hl : line.Perm (sides n)) (h1 : 1 ≤ n) (hVp : ∀ p ∈ V, p.Perm (sides n)) (hV : ∀ p ∈ V, Along line p) {K Y : Nat} (hK : K < n) (hY : Y < K) : V.length ≤ cnt V (line.getD K 0) (line.getD Y 0) + upto line V K := by
  have hln := perm_len hl
  have hnd := perm_nodup hl
  induction V with
  | nil => simp
  | cons p V ih =>
    have ih := ih (fun q hq => hVp q (List.mem_cons_of_mem _ hq)) (fun q hq => hV q (List.mem_cons_of_mem _ hq))
    have hp := hVp p (List.mem_cons_self)
    have ha := hV p (List.mem_cons_self)
    obtain ⟨t1, t2, t3⟩ := top_of hp h1
    have tl := hl.mem_iff.2 t1
    rw [cnt_consN, upto_cons, List.length_cons]
    have hpK := pos_idx hnd (k := K) (by omega)
    have hpY := pos_idx hnd (k := Y) (by omega)
    have mK : line.getD K 0 ∈ line := getD_mem line K (by omega)
    have mY : line.getD Y 0 ∈ line := getD_mem line Y (by omega)
    by_cases q : pos line (p.getD 0 0) < K
    · have h4 := tot_mem (φ := fun x => if pos p x = 0 then 1 else 0) ((mem_takeK hl tl (k := K) (by omega)).2 q)
      simp only [t2, if_true] at h4
      omega
    · have hlt : pos p (line.getD K 0) < pos p (line.getD Y 0) := by
        have hY0 : pos p (line.getD Y 0) ≠ 0 := fun e => by
          have := t3 _ (hl.mem_iff.1 mY) e
          rw [← this, hpY] at q
          omega
        by_cases e : p.getD 0 0 = line.getD K 0
        · rw [← e, t2]
          have := pos_range hp (x := (line.getD Y 0).toNat) (by have := mem_sides.1 (hl.mem_iff.1 mY); omega)
          rw [show ((line.getD Y 0).toNat : Int) = line.getD Y 0 by have := mem_sides.1 (hl.mem_iff.1 mY); omega] at this
          omega
        · have hne : pos line (p.getD 0 0) ≠ K := fun e2 => e (pos_inj hnd tl mK (by rw [e2, hpK]))
          have hYK : pos p (line.getD Y 0) ≠ pos p (line.getD K 0) := fun e3 => by
            have := pos_inj (perm_nodup hp) (hp.mem_iff.2 (hl.mem_iff.1 mY)) (hp.mem_iff.2 (hl.mem_iff.1 mK)) e3
            rw [this, hpK] at hpY; omega
          by_cases q2 : pos p (line.getD Y 0) < pos p (line.getD K 0)
          · exfalso
            have h0 := pos_range hp (x := (line.getD Y 0).toNat) (by have := mem_sides.1 (hl.mem_iff.1 mY); omega)
            rw [show ((line.getD Y 0).toNat : Int) = line.getD Y 0 by have := mem_sides.1 (hl.mem_iff.1 mY); omega] at h0
            have := ha.ahead hl mY mK tl (.inl ⟨by omega, by omega⟩) q2
            rw [t2] at this
            omega
          · omega
      rw [if_pos hlt]
      omega
theorem black_right (hl : line.Perm (sides n)) (h1 : 1 ≤ n) (hVp : ∀ p ∈ V, p.Perm (sides n)) (hV : ∀ p ∈ V, Along line p) {K Y : Nat} (hY : K < Y) (hYn : Y < n) : upto line V (K + 1) ≤ cnt V (line.getD K 0) (line.getD Y 0) := by
  have hln := perm_len hl
  have hnd := perm_nodup hl
  induction V with
  | nil => have : upto line [] (K + 1) = 0 := tot_zero.2 (fun x _ => rfl)
           omega
  | cons p V ih =>
    have ih := ih (fun q hq => hVp q (List.mem_cons_of_mem _ hq)) (fun q hq => hV q (List.mem_cons_of_mem _ hq))
    have hp := hVp p (List.mem_cons_self)
    have ha := hV p (List.mem_cons_self)
    obtain ⟨t1, t2, t3⟩ := top_of hp h1
    have tl := hl.mem_iff.2 t1
    rw [cnt_consN, upto_cons]
    have hpK := pos_idx hnd (k := K) (by omega)
    have hpY := pos_idx hnd (k := Y) (by omega)
    have mK : line.getD K 0 ∈ line := getD_mem line K (by omega)
    have mY : line.getD Y 0 ∈ line := getD_mem line Y (by omega)
    have hone : tot (line.take (K + 1)) (fun x => if pos p x = 0 then 1 else 0) ≤ 1 := by
      have h5 : tot (line.take (K + 1)) (fun x => if pos p x = 0 then 1 else 0) ≤ tot line (fun x => if pos p x = 0 then 1 else 0) := by
        have e := List.take_append_drop (K + 1) line
        have : tot line (fun x => if pos p x = 0 then 1 else 0) = tot (line.take (K + 1)) (fun x => if pos p x = 0 then 1 else 0) + tot (line.drop (K + 1)) (fun x => if pos p x = 0 then 1 else 0) := by
          rw [← tot_append, e]
        omega
      have h6 : tot line (fun x => if pos p x = 0 then 1 else 0) = 1 := by
        rw [tot_perm hl]
        have := tot_pos hp (fun z => if z = 0 then 1 else 0)
        rw [this, tot_first, if_pos (by omega)]
      omega
    by_cases q : pos line (p.getD 0 0) < (K + 1 : Nat)
    · have hlt : pos p (line.getD K 0) < pos p (line.getD Y 0) := by
        have y0 := pos_range hp (x := (line.getD Y 0).toNat) (by have := mem_sides.1 (hl.mem_iff.1 mY); omega)
        rw [show ((line.getD Y 0).toNat : Int) = line.getD Y 0 by have := mem_sides.1 (hl.mem_iff.1 mY); omega] at y0
        have hY0 : pos p (line.getD Y 0) ≠ 0 := fun e => by
          have := t3 _ (hl.mem_iff.1 mY) e
          rw [← this, hpY] at q
          omega
        by_cases e : p.getD 0 0 = line.getD K 0
        · rw [← e, t2]; omega
        · have hne : pos line (p.getD 0 0) ≠ K := fun e2 => e (pos_inj hnd tl mK (by rw [e2, hpK]))
          have hYK : pos p (line.getD Y 0) ≠ pos p (line.getD K 0) := fun e3 => by
            have := pos_inj (perm_nodup hp) (hp.mem_iff.2 (hl.mem_iff.1 mY)) (hp.mem_iff.2 (hl.mem_iff.1 mK)) e3
            rw [this, hpK] at hpY; omega
          by_cases q2 : pos p (line.getD Y 0) < pos p (line.getD K 0)
          · exfalso
            have := ha.ahead hl mY mK tl (.inr ⟨by omega, by omega⟩) q2
            rw [t2] at this
            omega
          · omega
      rw [if_pos hlt]
      omega
    · have h7 : tot (line.take (K + 1)) (fun x => if pos p x = 0 then 1 else 0) = 0 := tot_zero.2 fun x hx => by
        by_cases e : pos p x = 0
        · exfalso
          have hxl : x ∈ line := List.mem_of_mem_take hx
          have := t3 x (hl.mem_iff.1 hxl) e
          rw [this] at hx
          exact q ((mem_takeK hl tl (by omega)).1 hx)
        · rw [if_neg e]
      omega
/-- Black: who stands in the middle is beaten by nobody, and of an odd number of votes beats all others. -/
theorem peak_black (hl : line.Perm (sides n)) (h1 : 1 ≤ n) (hVp : ∀ p ∈ V, p.Perm (sides n)) (hV : ∀ p ∈ V, Along line p) (hne : 1 ≤ V.length) :
    ∃ k : Nat, k < n ∧ midL line V = k ∧ (∀ y : Nat, y < n → cnt V y k ≤ cnt V k y) ∧ (V.length % 2 = 1 → Beats n V k) := by
  have hln := perm_len hl
  have hnd := perm_nodup hl
  obtain ⟨K, hK, hup, hlo⟩ := mid_has hl h1 hVp
  have hm := mid_at (by omega) hup hlo
  have hlow : 2 * upto line V K < V.length := by
    cases K with
    | zero => rw [upto_zero]; omega
    | succ K => exact hlo K (by omega)
  have mK := mem_sides.1 (hl.mem_iff.1 (getD_mem line K (by omega)))
  obtain ⟨k, hk⟩ : ∃ k : Nat, line.getD K 0 = k := ⟨(line.getD K 0).toNat, by omega⟩
  have hkn : k < n := by omega
  have hall : ∀ y : Nat, y < n → y ≠ k → cnt V y k ≤ cnt V k y ∧ (V.length % 2 = 1 → cnt V y k < cnt V k y) := by
    intro y hy hyk
    obtain ⟨Y, hY, hYy, _⟩ := pos_mem hnd (y := (y : Int)) (hl.mem_iff.2 (mem_sides.2 ⟨by omega, by omega⟩))
    have hYK : Y ≠ K := fun e => by subst e; rw [hYy] at hk; omega
    have hb := duel_both hVp hkn hy (fun e => hyk e.symm)
    by_cases q : Y < K
    · have := black_left hl h1 hVp hV hK q
      rw [hk, hYy] at this
      omega
    · have := black_right hl h1 hVp hV (K := K) (Y := Y) (by omega) (by omega)
      rw [hk, hYy] at this
      omega
  refine ⟨k, hkn, by rw [hm, hk], fun y hy => ?_, fun hodd => ⟨hkn, fun y hy hyk => (hall y hy hyk).2 hodd⟩⟩
  by_cases e : y = k
  · subst e; exact Nat.le_refl _
  · exact (hall y hy e).1
end
end Fm

import Derived.Test.YtimjepakdldacaaPureA
/-
  The rules of a vote: who has the most, and who is left at the end of the rounds: lists of ints alone, no Go text.
-/
namespace Fm
set_option linter.unusedVariables false

def most (l : List Int) : Int := l.foldl max (l.headD 0)
def greatTo (l : List Int) (k : Nat) : List Int := ((List.range k).filter fun i => decide (l.getD i 0 = most l)).map fun (i : Nat) => (i : Int)
/-- The places of the greatest. -/
def greatest (l : List Int) : List Int := greatTo l l.length
theorem greatTo_succ (l : List Int) (k : Nat) : greatTo l (k + 1) = greatTo l k ++ if l.getD k 0 = most l then [(k : Int)] else [] := by
  unfold greatTo
  rw [List.range_succ, List.filter_append, List.map_append]
  congr 1
  by_cases h : l.getD k 0 = most l
  · rw [if_pos h, List.filter_cons, decide_eq_true h]; rfl
  · rw [if_neg h, List.filter_cons, decide_eq_false h]; rfl
theorem greatTo_len (l : List Int) (k : Nat) : (greatTo l k).length ≤ k := by
  unfold greatTo; rw [List.length_map]; exact Nat.le_trans (List.length_filter_le _ _) (by simp)

/-- The ballot p without those that are out. -/
def onlyIn (left p : List Int) : List Int := p.filter fun y => decide (y ∈ left)
def tops (V : List (List Int)) (left : List Int) (x : Int) : Nat := V.countP fun p => decide ((onlyIn left p).getD 0 0 = x)
theorem tops_le (V : List (List Int)) (left : List Int) (x : Int) : tops V left x ≤ V.length := List.countP_le_length
theorem tops_succ (V : List (List Int)) (left : List Int) (x : Int) {t : Nat} (h : t < V.length) : tops (V.take (t + 1)) left x = tops (V.take t) left x + if (onlyIn left (V.getD t [])).getD 0 0 = x then 1 else 0 := by
  unfold tops
  rw [List.take_succ_eq_append_getElem h, List.countP_append, List.getD_eq_getElem?_getD (l := V), List.getElem?_eq_getElem h]
  congr 1
  rw [List.countP_singleton]
  by_cases hc : (onlyIn left ((some V[t]).getD [])).getD 0 0 = x
  · rw [if_pos hc]; simp at hc ⊢; exact hc
  · rw [if_neg hc]; simp at hc ⊢; exact hc
/-- Of the first j of those left: the last one with the fewest, and how many. -/
def outTo (V : List (List Int)) (left : List Int) : Nat → Int × Int
  | 0 => (-1, 0)
  | j + 1 => if (outTo V left j).1 < 0 ∨ (tops V left (left.getD j 0) : Int) ≤ (outTo V left j).2 then (left.getD j 0, (tops V left (left.getD j 0) : Int)) else outTo V left j
def outOf (V : List (List Int)) (left : List Int) : Int := (outTo V left left.length).1
def leftTo (V : List (List Int)) (n : Nat) : Nat → List Int
  | 0 => sides n
  | j + 1 => (leftTo V n j).filter fun x => !(x == outOf V (leftTo V n j))
/-- Who is left at the end. -/
def lastOf (n : Nat) (V : List (List Int)) : Int := (leftTo V n (n - 1)).getD 0 0

theorem outTo_mem (V : List (List Int)) (left : List Int) (h0 : ∀ x ∈ left, 0 ≤ x) {j : Nat} (hj : j < left.length) : (outTo V left (j + 1)).1 ∈ left := by
  induction j with
  | zero =>
    rw [outTo]
    split
    · exact getD_mem left 0 hj
    · rename_i h
      exact absurd (Or.inl (show ((-1 : Int), (0 : Int)).1 < 0 by decide)) h
  | succ j ih =>
    have ih := ih (by omega)
    rw [outTo]
    split
    · exact getD_mem left (j + 1) hj
    · exact ih
theorem outTo_bd (V : List (List Int)) (left : List Int) (j : Nat) : 0 ≤ (outTo V left j).2 ∧ (outTo V left j).2 ≤ V.length := by
  induction j with
  | zero => simp [outTo]
  | succ j ih =>
    rw [outTo]
    split
    · have := tops_le V left (left.getD j 0)
      exact ⟨Int.natCast_nonneg _, by show ((tops V left (left.getD j 0) : Nat) : Int) ≤ _; omega⟩
    · exact ih
theorem filter_ne_len {l : List Int} (hn : l.Nodup) {x : Int} (hx : x ∈ l) : (l.filter fun y => !(y == x)).length = l.length - 1 := by
  induction l with
  | nil => cases hx
  | cons a l ih =>
    rw [List.nodup_cons] at hn
    by_cases h : a = x
    · subst h
      have e : l.filter (fun y => !(y == a)) = l := by
        rw [List.filter_eq_self]
        intro y hy
        have : y ≠ a := fun e => hn.1 (e ▸ hy)
        simpa using this
      rw [List.filter_cons]
      simp [e]
    · rcases List.mem_cons.1 hx with h' | h'
      · exact absurd h'.symm h
      · have := ih hn.2 h'
        have hpos := List.length_pos_of_mem h'
        rw [List.filter_cons]
        simp [h, this]
        omega
structure LeftOk (n j : Nat) (l : List Int) : Prop where
  len : l.length = n - j
  nodup : l.Nodup
  rng : ∀ x ∈ l, 0 ≤ x ∧ x < n
theorem left_ok (V : List (List Int)) (n : Nat) (h1 : 1 ≤ n) : ∀ j, j ≤ n - 1 → LeftOk n j (leftTo V n j) := by
  intro j
  induction j with
  | zero => intro _; exact ⟨by simp [leftTo, sides_len], sides_nodup n, fun x hx => mem_sides.1 hx⟩
  | succ j ih =>
    intro hj
    have h := ih (by omega)
    have hm : outOf V (leftTo V n j) ∈ leftTo V n j := by
      unfold outOf
      have hl := h.len
      obtain ⟨k, hk⟩ : ∃ k, (leftTo V n j).length = k + 1 := ⟨(leftTo V n j).length - 1, by omega⟩
      rw [hk]
      exact outTo_mem V _ (fun x hx => (h.rng x hx).1) (by omega)
    refine ⟨?_, h.nodup.sublist List.filter_sublist, fun x hx => h.rng x (List.mem_filter.1 hx).1⟩
    show ((leftTo V n j).filter _).length = _
    rw [filter_ne_len h.nodup hm, h.len]; omega
theorem only_pos {n j : Nat} {left p : List Int} (hl : LeftOk n j left) (hj : j < n) (hp : p.Perm (sides n)) : 0 < (onlyIn left p).length := by
  have hll := hl.len
  have hm := getD_mem left 0 (by omega)
  have : left.getD 0 0 ∈ onlyIn left p := List.mem_filter.2 ⟨hp.mem_iff.2 (mem_sides.2 (hl.rng _ hm)), by simpa using hm⟩
  exact List.length_pos_of_mem this

/-- What rules.Winners answers: the rule's number, then that of the vote. -/
def rchk (rule n : Int) (V : List (List Int)) : Int := if rule < 1 ∨ 5 < rule then 1 else vchk n V
def winL (rule : Int) (n : Nat) (V : List (List Int)) : List Int :=
  if rule = 1 then greatest (firstsL n V) else if rule = 2 then greatest (pointsL n V) else if rule = 3 then greatest (winsL n (duelsM n V)) else if rule = 4 then greatest ((worstL n (duelsM n V)).map fun x => -x) else [lastOf n V]
theorem foldl_max_mem (l : List Int) (a : Int) : l.foldl max a = a ∨ l.foldl max a ∈ l := by
  induction l generalizing a with
  | nil => left; rfl
  | cons b l ih =>
    simp only [List.foldl_cons]
    rcases ih (max a b) with h | h
    · rw [h]
      rcases Int.le_total a b with hab | hab
      · right; rw [Int.max_eq_right hab]; simp
      · left; rw [Int.max_eq_left hab]
    · right; exact List.mem_cons_of_mem _ h
theorem most_mem {l : List Int} (h : 0 < l.length) : most l ∈ l := by
  unfold most
  match l, h with
  | b :: l, _ =>
    rcases foldl_max_mem (b :: l) ((b :: l).headD 0) with h | h
    · rw [h]; simp
    · exact h
theorem most_ge {l : List Int} {k : Nat} (hk : k < l.length) : l.getD k 0 ≤ most l := by
  have h := maxOf_ge hk l.length hk (Nat.le_refl _)
  rw [List.take_of_length_le (Nat.le_refl _)] at h
  exact h
theorem mem_greatest {l : List Int} {x : Nat} : (x : Int) ∈ greatest l ↔ x < l.length ∧ l.getD x 0 = most l := by
  unfold greatest greatTo
  rw [List.mem_map]
  constructor
  · rintro ⟨y, hy, he⟩
    have : y = x := by omega
    subst this
    rw [List.mem_filter, List.mem_range] at hy
    exact ⟨hy.1, by simpa using hy.2⟩
  · rintro ⟨h1, h2⟩
    exact ⟨x, List.mem_filter.2 ⟨List.mem_range.2 h1, by simpa using h2⟩, rfl⟩
theorem greatest_rng {l : List Int} {x : Int} (h : x ∈ greatest l) : 0 ≤ x ∧ x < l.length := by
  unfold greatest greatTo at h
  rw [List.mem_map] at h
  obtain ⟨y, hy, rfl⟩ := h
  rw [List.mem_filter, List.mem_range] at hy
  omega
theorem greatest_pos {l : List Int} (h : 0 < l.length) : 0 < (greatest l).length := by
  obtain ⟨k, hk, he⟩ := List.getElem_of_mem (most_mem h)
  exact List.length_pos_of_mem (mem_greatest.2 ⟨hk, by rw [getD_get hk]; exact he⟩)
theorem winL_pos (rule : Int) {n : Nat} (h : 1 ≤ n) (V : List (List Int)) : 0 < (winL rule n V).length := by
  unfold winL
  split
  · exact greatest_pos (by simp [firstsL, sides_len]; omega)
  · split
    · exact greatest_pos (by simp [pointsL, sides_len]; omega)
    · split
      · exact greatest_pos (by simp [winsL, sides_len]; omega)
      · split
        · exact greatest_pos (by simp [worstL, sides_len]; omega)
        · simp
theorem winL_le (rule : Int) {n : Nat} (h : 1 ≤ n) (V : List (List Int)) : (winL rule n V).length ≤ n := by
  unfold winL
  split
  · exact Nat.le_trans (greatTo_len _ _) (by simp [firstsL, sides_len])
  · split
    · exact Nat.le_trans (greatTo_len _ _) (by simp [pointsL, sides_len])
    · split
      · exact Nat.le_trans (greatTo_len _ _) (by simp [winsL, sides_len])
      · split
        · exact Nat.le_trans (greatTo_len _ _) (by simp [worstL, sides_len])
        · simp; omega
/-- What rules.Sole answers at votes. -/
def soleX (rule : Int) (n : Nat) (V : List (List Int)) : Int := if 1 < (winL rule n V).length then 0 else (winL rule n V).getD 0 0
def soleE (rule : Int) (n : Nat) (V : List (List Int)) : Int := if 1 < (winL rule n V).length then 5 else 0
end Fm
/-
  Votes of two: every rule goes by who is first on more ballots: lists of ints alone, no Go text.
-/
namespace Fm
set_option linter.unusedVariables false

theorem votesOf_v0 {n : Nat} (h1 : 1 ≤ n) (h6 : n ≤ 6) (L : List (List Int)) : vchk n (votesOf n L) = 0 :=
  vchk_ok (by omega) (by rw [votesOf_len]; omega) (fun l hl => chk_perm (votesOf_mem hl) h1 h6)
/-- Who is first on a ballot. -/
theorem first_pos {n : Nat} {p : List Int} (hp : p.Perm (sides n)) (hn : 1 ≤ n) {x : Nat} (hx : x < n) : p.getD 0 0 = x ↔ pos p x = 0 := by
  have hnd := hp.nodup_iff.2 (sides_nodup n)
  have hl : p.length = n := by have := hp.length_eq; rwa [sides_len] at this
  have h0 := pos_idx hnd (k := 0) (by omega)
  have hm : (x : Int) ∈ p := hp.mem_iff.2 (mem_sides.2 ⟨by omega, by omega⟩)
  constructor
  · intro h; rw [← h]; exact h0
  · intro h
    exact pos_inj hnd (getD_mem p 0 (by omega)) hm (by rw [h0, h]; rfl)
theorem two_pos {p : List Int} (hp : p.Perm (sides 2)) : (pos p 0 = 0 ∧ pos p 1 = 1) ∨ (pos p 0 = 1 ∧ pos p 1 = 0) := by
  have a := pos_range hp (x := 0) (by omega)
  have b := pos_range hp (x := 1) (by omega)
  have hnd := hp.nodup_iff.2 (sides_nodup 2)
  have m0 : (0 : Int) ∈ p := hp.mem_iff.2 (mem_sides.2 ⟨by omega, by omega⟩)
  have m1 : (1 : Int) ∈ p := hp.mem_iff.2 (mem_sides.2 ⟨by omega, by omega⟩)
  have hne : pos p 0 ≠ pos p 1 := fun h => by have := pos_inj hnd m0 m1 h; cases this
  simp at a b
  omega
section
variable {V : List (List Int)} (hV : ∀ p ∈ V, p.Perm (sides 2))
include hV
theorem two_cnt : cnt V 0 1 = fst1 V 0 ∧ cnt V 1 0 = fst1 V 1 := by
  constructor
  · unfold cnt fst1
    refine List.countP_congr (fun p hp => ?_)
    have := two_pos (hV p hp)
    simp; omega
  · unfold cnt fst1
    refine List.countP_congr (fun p hp => ?_)
    have := two_pos (hV p hp)
    simp; omega
theorem two_pts : pts 2 V 0 = fst1 V 0 ∧ pts 2 V 1 = fst1 V 1 := by
  induction V with
  | nil => simp [pts, fst1]
  | cons p V ih =>
    obtain ⟨i1, i2⟩ := ih (fun q hq => hV q (by simp [hq]))
    have h := two_pos (hV p (by simp))
    simp only [pts]
    unfold fst1 at *
    rw [List.countP_cons, List.countP_cons, i1, i2]
    rcases h with ⟨a, b⟩ | ⟨a, b⟩
    · simp [a, b]; omega
    · simp [a, b]; omega
theorem two_tops (x : Nat) (hx : x < 2) : tops V (sides 2) x = fst1 V x := by
  unfold tops fst1
  refine List.countP_congr (fun p hp => ?_)
  have e : onlyIn (sides 2) p = p := by
    unfold onlyIn
    rw [List.filter_eq_self]
    intro y hy
    simpa using (hV p hp).mem_iff.1 hy
  rw [e]
  have := first_pos (hV p hp) (by omega) hx
  simp only [decide_eq_true_eq]
  exact this
end
/-- The places of the greater of two. -/
def two (a b : Int) : List Int := if b < a then [0] else if a < b then [1] else [0, 1]
theorem greatest_two (a b : Int) : greatest [a, b] = two a b := by
  have hm : most [a, b] = max a b := by unfold most; simp
  unfold greatest greatTo
  rw [hm]
  have hr : List.range ([a, b] : List Int).length = [0, 1] := rfl
  rw [hr]
  unfold two
  by_cases h1 : b < a
  · have e : max a b = a := by omega
    have h2 : ¬ b = a := by omega
    rw [if_pos h1, e]; simp [h2]
  · rw [if_neg h1]
    by_cases h2 : a < b
    · have e : max a b = b := by omega
      have h3 : ¬ a = b := by omega
      rw [if_pos h2, e]; simp [h3]
    · have h3 : a = b := by omega
      subst h3
      simp
theorem two_sg (a b : Int) : two (sg (a - b)) (sg (b - a)) = two a b := by
  unfold two
  rcases Int.lt_trichotomy a b with h | h | h
  · have s1 : sg (a - b) = -1 := by unfold sg; rw [if_neg (by omega), if_pos (by omega)]
    have s2 : sg (b - a) = 1 := sg_one.2 (by omega)
    rw [s1, s2, if_neg (by decide), if_pos (by decide), if_neg (by omega), if_pos h]
  · subst h; simp
  · have s1 : sg (a - b) = 1 := sg_one.2 (by omega)
    have s2 : sg (b - a) = -1 := by unfold sg; rw [if_neg (by omega), if_pos (by omega)]
    rw [s1, s2, if_pos (by decide), if_pos h]
theorem sides_two : sides 2 = [0, 1] := rfl
theorem may_win {V : List (List Int)} (hV : ∀ p ∈ V, p.Perm (sides 2)) {rule : Int} (h1 : 1 ≤ rule) (h5 : rule ≤ 5) :
    winL rule 2 V = if (fst1 V 1 : Int) < fst1 V 0 then [0] else if (fst1 V 0 : Int) < fst1 V 1 then [1] else if rule = 5 then [0] else [0, 1] := by
  obtain ⟨c1, c2⟩ := two_cnt hV
  obtain ⟨p1, p2⟩ := two_pts hV
  have t0 := two_tops hV 0 (by omega)
  have t1 := two_tops hV 1 (by omega)
  have ef : firstsL 2 V = [(fst1 V 0 : Int), fst1 V 1] := rfl
  have ep : pointsL 2 V = [(fst1 V 0 : Int), fst1 V 1] := by unfold pointsL; rw [sides_two]; simp [p1, p2]
  have d00 : ent (duelsM 2 V) 0 0 = cnt V 0 0 := ent_duels 2 V (by omega) (by omega)
  have d01 : ent (duelsM 2 V) 0 1 = fst1 V 0 := by rw [ent_duels 2 V (by omega) (by omega)]; exact congrArg _ c1
  have d10 : ent (duelsM 2 V) 1 0 = fst1 V 1 := by rw [ent_duels 2 V (by omega) (by omega)]; exact congrArg _ c2
  unfold winL
  by_cases e1 : rule = 1
  · rw [if_pos e1, ef, greatest_two, if_neg (show ¬ rule = 5 by omega)]; rfl
  · rw [if_neg e1]
    by_cases e2 : rule = 2
    · rw [if_pos e2, ep, greatest_two, if_neg (show ¬ rule = 5 by omega)]; rfl
    · rw [if_neg e2]
      by_cases e3 : rule = 3
      · rw [if_pos e3, if_neg (show ¬ rule = 5 by omega)]
        have ew : winsL 2 (duelsM 2 V) = [sg ((fst1 V 0 : Int) - fst1 V 1), sg ((fst1 V 1 : Int) - fst1 V 0)] := by
          unfold winsL
          rw [sides_two]
          simp only [List.map_cons, List.map_nil]
          have a : winTo (duelsM 2 V) (0 : Int).toNat 2 = sg ((fst1 V 0 : Int) - fst1 V 1) := by
            show winTo (duelsM 2 V) 0 2 = _
            simp only [winTo, d01, d10, Int.sub_self]
            simp [sg]
          have b : winTo (duelsM 2 V) (1 : Int).toNat 2 = sg ((fst1 V 1 : Int) - fst1 V 0) := by
            show winTo (duelsM 2 V) 1 2 = _
            simp only [winTo, d01, d10, Int.sub_self]
            simp [sg]
          rw [a, b]
        rw [ew, greatest_two, two_sg]; rfl
      · rw [if_neg e3]
        by_cases e4 : rule = 4
        · rw [if_pos e4, if_neg (show ¬ rule = 5 by omega)]
          have ew : (worstL 2 (duelsM 2 V)).map (fun x => -x) = [-(max 0 (-((fst1 V 0 : Int) - fst1 V 1))), -(max 0 (-((fst1 V 1 : Int) - fst1 V 0)))] := by
            unfold worstL
            rw [sides_two]
            simp only [List.map_cons, List.map_nil]
            have a : worstTo (duelsM 2 V) (0 : Int).toNat 2 = max 0 (-((fst1 V 0 : Int) - fst1 V 1)) := by
              show worstTo (duelsM 2 V) 0 2 = _
              simp only [worstTo, d01, d10, Int.sub_self]
              omega
            have b : worstTo (duelsM 2 V) (1 : Int).toNat 2 = max 0 (-((fst1 V 1 : Int) - fst1 V 0)) := by
              show worstTo (duelsM 2 V) 1 2 = _
              simp only [worstTo, d01, d10, Int.sub_self]
              omega
            rw [a, b]
          rw [ew, greatest_two]
          unfold two
          by_cases g1 : (fst1 V 1 : Int) < fst1 V 0
          · rw [if_pos g1, if_pos (by omega)]
          · rw [if_neg g1]
            by_cases g2 : (fst1 V 0 : Int) < fst1 V 1
            · rw [if_pos g2, if_neg (by omega), if_pos (by omega)]
            · rw [if_neg g2, if_neg (by omega), if_neg (by omega)]
        · rw [if_neg e4]
          have e5 : rule = 5 := by omega
          rw [if_pos e5]
          have eo : outOf V (sides 2) = if (fst1 V 1 : Int) ≤ fst1 V 0 then 1 else 0 := by
            unfold outOf
            show (outTo V (sides 2) 2).1 = _
            have o1 : outTo V (sides 2) 1 = (0, (fst1 V 0 : Int)) := by
              rw [outTo]
              rw [if_pos (by left; show (-1 : Int) < 0; decide)]
              show ((0 : Int), ((tops V (sides 2) 0 : Nat) : Int)) = _
              rw [show tops V (sides 2) 0 = fst1 V 0 from t0]
            rw [outTo, o1]
            show (if (0 : Int) < 0 ∨ ((tops V (sides 2) 1 : Nat) : Int) ≤ (fst1 V 0 : Int) then ((1 : Int), ((tops V (sides 2) 1 : Nat) : Int)) else (0, (fst1 V 0 : Int))).1 = _
            rw [show tops V (sides 2) 1 = fst1 V 1 from t1]
            by_cases g : (fst1 V 1 : Int) ≤ fst1 V 0
            · rw [if_pos (.inr g), if_pos g]
            · rw [if_neg (by omega), if_neg g]
          have el : lastOf 2 V = if (fst1 V 1 : Int) ≤ fst1 V 0 then 0 else 1 := by
            unfold lastOf
            show ((sides 2).filter fun x => !(x == outOf V (sides 2))).getD 0 0 = _
            rw [eo, sides_two]
            by_cases g : (fst1 V 1 : Int) ≤ fst1 V 0
            · rw [if_pos g, if_pos g]; rfl
            · rw [if_neg g, if_neg g]; rfl
          rw [el]
          by_cases g1 : (fst1 V 1 : Int) < fst1 V 0
          · rw [if_pos g1, if_pos (by omega)]
          · rw [if_neg g1]
            by_cases g2 : (fst1 V 0 : Int) < fst1 V 1
            · rw [if_pos g2, if_neg (by omega)]
            · rw [if_neg g2, if_pos (by omega)]
end Fm
/-
  Who beats all others wins alone by duels and by greatest defeats; who is first on most ballots wins alone by first places and by rounds too: lists of ints alone, no Go text.
-/
namespace Fm
set_option linter.unusedVariables false

theorem greatest_one {l : List Int} {x : Nat} (hx : x < l.length) (h : ∀ y, y < l.length → y ≠ x → l.getD y 0 < l.getD x 0) : greatest l = [(x : Int)] := by
  have hm : most l = l.getD x 0 := by
    obtain ⟨k, hk, he⟩ := List.getElem_of_mem (most_mem (l := l) (by omega))
    have hk' : l.getD k 0 = most l := by rw [getD_get hk]; exact he
    have hge := most_ge hx
    by_cases hkx : k = x
    · subst hkx; exact hk'.symm
    · have := h k hk hkx; omega
  have hall : ∀ m, m ≤ l.length → greatTo l m = if x < m then [(x : Int)] else [] := by
    intro m
    induction m with
    | zero => intro _; rfl
    | succ m ih =>
      intro hml
      rw [greatTo_succ, ih (by omega), hm]
      by_cases hmx : m = x
      · subst hmx
        rw [if_neg (by omega), if_pos rfl, if_pos (by omega)]; rfl
      · have hlt := h m (by omega) hmx
        rw [if_neg (show ¬ l.getD m 0 = l.getD x 0 by omega), List.append_nil]
        by_cases h2 : x < m
        · rw [if_pos h2, if_pos (by omega)]
        · rw [if_neg h2, if_neg (by omega)]
  unfold greatest
  rw [hall l.length (Nat.le_refl _), if_pos hx]
theorem winsL_at (n : Nat) (M : List (List Int)) {y : Nat} (h : y < n) : (winsL n M).getD y 0 = winTo M y n := by
  unfold winsL; rw [map_sides_getD n _ h]; simp
theorem worstL_at (n : Nat) (M : List (List Int)) {y : Nat} (h : y < n) : ((worstL n M).map fun x => -x).getD y 0 = -(worstTo M y n) := by
  unfold worstL
  rw [List.map_map]
  rw [map_sides_getD n _ h]; simp
theorem beats_wins {n : Nat} {V : List (List Int)} {x : Nat} (hb : Beats n V x) : winL 3 n V = [(x : Int)] := by
  show greatest (winsL n (duelsM n V)) = _
  have hl : (winsL n (duelsM n V)).length = n := by simp [winsL, sides_len]
  refine greatest_one (by rw [hl]; exact hb.1) (fun y hy hne => ?_)
  rw [hl] at hy
  rw [winsL_at n _ hy, winsL_at n _ hb.1, (win_beats hb.1).2 hb]
  have h1 := (winTo_max (duelsM n V) y n).1
  rw [if_pos hy] at h1
  have h2 : winTo (duelsM n V) y n ≠ n - 1 := fun h => hne (beats_one ((win_beats hy).1 h) hb)
  omega
theorem beats_worst {n : Nat} {V : List (List Int)} {x : Nat} (hb : Beats n V x) : winL 4 n V = [(x : Int)] := by
  show greatest ((worstL n (duelsM n V)).map fun x => -x) = _
  have hl : ((worstL n (duelsM n V)).map fun x => -x).length = n := by simp [worstL, sides_len]
  have h0 : worstTo (duelsM n V) x n = 0 := by
    rcases worst_att (duelsM n V) x n with h | ⟨y, hy, he⟩
    · exact h
    · have hn := worstTo_nonneg (duelsM n V) x n
      by_cases hyx : y = x
      · subst hyx; omega
      · have := hb.2 y hy hyx
        rw [ent_duels n V hy hb.1, ent_duels n V hb.1 hy] at he
        omega
  refine greatest_one (by rw [hl]; exact hb.1) (fun y hy hne => ?_)
  rw [hl] at hy
  rw [worstL_at n _ hy, worstL_at n _ hb.1, h0]
  have h1 := worst_ge (duelsM n V) y hb.1
  rw [ent_duels n V hb.1 hy, ent_duels n V hy hb.1] at h1
  have := hb.2 y hy hne
  omega

theorem tops_two (V : List (List Int)) (left : List Int) {x y : Int} (hne : y ≠ x) : tops V left x + tops V left y ≤ V.length := by
  unfold tops
  induction V with
  | nil => simp
  | cons p V ih =>
    rw [List.countP_cons, List.countP_cons, List.length_cons]
    by_cases h : (onlyIn left p).getD 0 0 = x
    · have h2 : ¬ (onlyIn left p).getD 0 0 = y := fun e => hne (by rw [← e, ← h])
      rw [decide_eq_true h, decide_eq_false h2]; simp only [if_true, Bool.false_eq_true, if_false]; omega
    · rw [decide_eq_false h]
      by_cases h2 : (onlyIn left p).getD 0 0 = y
      · rw [decide_eq_true h2]; simp only [if_true, Bool.false_eq_true, if_false]; omega
      · rw [decide_eq_false h2]; simp only [Bool.false_eq_true, if_false]; omega
theorem tops_ge {n : Nat} {V : List (List Int)} (hV : ∀ p ∈ V, p.Perm (sides n)) (hn : 1 ≤ n) {left : List Int} {x : Nat} (hx : x < n) (hxl : (x : Int) ∈ left) : fst1 V x ≤ tops V left x := by
  unfold fst1 tops
  refine List.countP_mono_left (fun p hp hpx => ?_)
  have hpx : pos p x = 0 := by simpa using hpx
  have h0 := (first_pos (hV p hp) hn hx).2 hpx
  have hl : p.length = n := by have := (hV p hp).length_eq; rwa [sides_len] at this
  have e : (onlyIn left p).getD 0 0 = x := by
    match p, hl, h0 with
    | [], hl, _ => simp at hl; omega
    | q :: p, _, h0 =>
      have hq : q = x := h0
      subst hq
      unfold onlyIn
      rw [List.filter_cons, decide_eq_true hxl]
      rfl
  exact decide_eq_true e
/-- Who is first on most ballots beats all others. -/
theorem most_beats {n : Nat} {V : List (List Int)} (hV : ∀ p ∈ V, p.Perm (sides n)) {x : Nat} (hx : x < n) (hm : V.length < 2 * fst1 V x) : Beats n V x := by
  refine ⟨hx, fun y hy hne => ?_⟩
  have h1 : fst1 V x ≤ cnt V x y := by
    unfold fst1 cnt
    refine List.countP_mono_left (fun p hp hpx => ?_)
    have hpx : pos p x = 0 := by simpa using hpx
    have hy0 := pos_range (hV p hp) hy
    have hnd := (hV p hp).nodup_iff.2 (sides_nodup n)
    have mx : (x : Int) ∈ p := (hV p hp).mem_iff.2 (mem_sides.2 ⟨by omega, by omega⟩)
    have my : (y : Int) ∈ p := (hV p hp).mem_iff.2 (mem_sides.2 ⟨by omega, by omega⟩)
    have : pos p y ≠ pos p x := fun e => hne (by have := pos_inj hnd my mx e; omega)
    simp; omega
  have h2 : cnt V x y + cnt V y x ≤ V.length := by
    clear h1 hm
    unfold cnt
    have hgen : ∀ U : List (List Int), (U.countP fun p => decide (pos p x < pos p y)) + (U.countP fun p => decide (pos p y < pos p x)) ≤ U.length := by
      intro U
      induction U with
      | nil => simp
      | cons p U ih =>
        rw [List.countP_cons, List.countP_cons, List.length_cons]
        by_cases h : pos p x < pos p y
        · have h2 : ¬ pos p y < pos p x := by omega
          rw [decide_eq_true h, decide_eq_false h2]; simp only [if_true, Bool.false_eq_true, if_false]; omega
        · rw [decide_eq_false h]
          by_cases h2 : pos p y < pos p x
          · rw [decide_eq_true h2]; simp only [if_true, Bool.false_eq_true, if_false]; omega
          · rw [decide_eq_false h2]; simp only [Bool.false_eq_true, if_false]; omega
    exact hgen V
  omega
theorem most_first {n : Nat} {V : List (List Int)} (hV : ∀ p ∈ V, p.Perm (sides n)) {x : Nat} (hx : x < n) (hm : V.length < 2 * fst1 V x) : winL 1 n V = [(x : Int)] := by
  show greatest (firstsL n V) = _
  have hl : (firstsL n V).length = n := by simp [firstsL, sides_len]
  refine greatest_one (by rw [hl]; exact hx) (fun y hy hne => ?_)
  rw [hl] at hy
  have a : (firstsL n V).getD y 0 = fst1 V y := by unfold firstsL; rw [map_sides_getD n _ hy]
  have b : (firstsL n V).getD x 0 = fst1 V x := by unfold firstsL; rw [map_sides_getD n _ hx]
  rw [a, b]
  have h2 : fst1 V x + fst1 V y ≤ V.length := by
    have hgen : ∀ U : List (List Int), (∀ p ∈ U, p.Perm (sides n)) → fst1 U x + fst1 U y ≤ U.length := by
      intro U
      induction U with
      | nil => intro _; simp [fst1]
      | cons p U ih =>
        intro hU
        have ih := ih (fun q hq => hU q (by simp [hq]))
        unfold fst1 at *
        rw [List.countP_cons, List.countP_cons, List.length_cons]
        have hp := hU p (by simp)
        have hnd := hp.nodup_iff.2 (sides_nodup n)
        have mx : (x : Int) ∈ p := hp.mem_iff.2 (mem_sides.2 ⟨by omega, by omega⟩)
        have my : (y : Int) ∈ p := hp.mem_iff.2 (mem_sides.2 ⟨by omega, by omega⟩)
        by_cases h : pos p x = 0
        · have h2 : ¬ pos p y = 0 := fun e => hne (by have := pos_inj hnd my mx (by rw [e, h]); omega)
          rw [decide_eq_true h, decide_eq_false h2]; simp only [if_true, Bool.false_eq_true, if_false]; omega
        · rw [decide_eq_false h]
          by_cases h2 : pos p y = 0
          · rw [decide_eq_true h2]; simp only [if_true, Bool.false_eq_true, if_false]; omega
          · rw [decide_eq_false h2]; simp only [Bool.false_eq_true, if_false]; omega
    exact hgen V hV
  omega
/-- Who is first on most ballots is never out while there is another. -/
theorem outTo_not {n : Nat} {V : List (List Int)} (hV : ∀ p ∈ V, p.Perm (sides n)) (hn : 1 ≤ n) {left : List Int} (h0 : ∀ z ∈ left, 0 ≤ z) {x : Nat} (hx : x < n) (hxl : (x : Int) ∈ left) (hm : V.length < 2 * fst1 V x) :
    ∀ k, k ≤ left.length → (0 < k → (outTo V left k).1 ∈ left ∧ (outTo V left k).2 = tops V left (outTo V left k).1) ∧ ((outTo V left k).1 = x → ∀ i, i < k → left.getD i 0 = x) := by
  have htx := tops_ge hV hn hx hxl
  intro k
  induction k with
  | zero => intro _; exact ⟨fun h => by omega, fun h i hi => by omega⟩
  | succ k ih =>
    intro hk
    obtain ⟨i1, i2⟩ := ih (by omega)
    rw [outTo]
    by_cases hc : (outTo V left k).1 < 0 ∨ (tops V left (left.getD k 0) : Int) ≤ (outTo V left k).2
    · rw [if_pos hc]
      refine ⟨fun _ => ⟨getD_mem left k (by omega), rfl⟩, fun he i hi => ?_⟩
      have he : left.getD k 0 = x := he
      by_cases hik : i = k
      · subst hik; exact he
      · rcases Nat.eq_zero_or_pos k with hk0 | hk0
        · omega
        · obtain ⟨j1, j2⟩ := i1 hk0
          have hpos := h0 _ j1
          rcases hc with hc | hc
          · omega
          · by_cases hox : (outTo V left k).1 = x
            · exact i2 hox i (by omega)
            · have := tops_two V left (x := x) (y := (outTo V left k).1) hox
              rw [j2, he] at hc
              omega
    · rw [if_neg hc]
      have hk0 : 0 < k := by
        rcases Nat.eq_zero_or_pos k with hk0 | hk0
        · subst hk0; exact absurd (Or.inl (show ((-1 : Int), (0 : Int)).1 < 0 by decide)) hc
        · exact hk0
      refine ⟨fun _ => i1 hk0, fun he i hi => ?_⟩
      by_cases hik : i = k
      · subst hik
        obtain ⟨j1, j2⟩ := i1 hk0
        by_cases hz : left.getD i 0 = x
        · exact hz
        · exfalso
          have := tops_two V left (x := x) (y := left.getD i 0) hz
          rw [he] at j2
          exact hc (.inr (by rw [j2]; omega))
      · exact i2 he i (by omega)
theorem most_left {n : Nat} {V : List (List Int)} (hV : ∀ p ∈ V, p.Perm (sides n)) (hn : 1 ≤ n) {x : Nat} (hx : x < n) (hm : V.length < 2 * fst1 V x) : ∀ j, j ≤ n - 1 → (x : Int) ∈ leftTo V n j := by
  intro j
  induction j with
  | zero => intro _; exact mem_sides.2 ⟨by omega, by omega⟩
  | succ j ih =>
    intro hj
    have hin := ih (by omega)
    have LO := left_ok V n hn j (by omega)
    have hne : outOf V (leftTo V n j) ≠ x := fun he => by
      have h := (outTo_not hV hn (fun z hz => (LO.rng z hz).1) hx hin hm (leftTo V n j).length (Nat.le_refl _)).2 he
      have hl := LO.len
      have a := h 0 (by omega)
      have b := h 1 (by omega)
      rw [getD_get (by omega)] at a b
      have := (List.getElem_inj LO.nodup).1 (a.trans b.symm)
      omega
    show (x : Int) ∈ (leftTo V n j).filter _
    exact List.mem_filter.2 ⟨hin, by simp; exact fun e => hne e.symm⟩
theorem most_rounds {n : Nat} {V : List (List Int)} (hV : ∀ p ∈ V, p.Perm (sides n)) (hn : 1 ≤ n) {x : Nat} (hx : x < n) (hm : V.length < 2 * fst1 V x) : winL 5 n V = [(x : Int)] := by
  show [lastOf n V] = _
  have hin := most_left hV hn hx hm (n - 1) (Nat.le_refl _)
  have LO := left_ok V n hn (n - 1) (Nat.le_refl _)
  have hl := LO.len
  have h1 : (leftTo V n (n - 1)).length = 1 := by omega
  unfold lastOf
  match leftTo V n (n - 1), h1, hin with
  | [z], _, hin =>
    simp at hin
    rw [hin]; rfl
end Fm
/-
  Who beats all others has not the fewest points, who is beaten by all others not the most: lists of ints alone, no Go text.
-/
namespace Fm
set_option linter.unusedVariables false

theorem tot_const (n c : Nat) : tot (sides n) (fun _ => c) = n * c := by
  induction n with
  | zero => simp [tot_sides0]
  | succ n ih => rw [tot_succ, ih, Nat.succ_mul]
theorem tot_one (n x c : Nat) : tot (sides n) (fun y => if y = (x : Int) then c else 0) = if x < n then c else 0 := by
  induction n with
  | zero => simp [tot_sides0]
  | succ n ih =>
    rw [tot_succ, ih]
    by_cases h : x < n
    · rw [if_pos h, if_neg (show ¬ (n : Int) = x by omega), if_pos (show x < n + 1 by omega)]; rfl
    · by_cases h2 : x = n
      · subst h2; rw [if_neg h, if_pos rfl, if_pos (show x < x + 1 by omega)]; omega
      · rw [if_neg h, if_neg (show ¬ (n : Int) = x by omega), if_neg (show ¬ x < n + 1 by omega)]
theorem tot_but {n x : Nat} (hx : x < n) (c : Nat) : tot (sides n) (fun y => if y = (x : Int) then 0 else c) + c = n * c := by
  have h1 := tot_one n x c
  rw [if_pos hx] at h1
  have h2 := tot_add (sides n) (fun y => if y = (x : Int) then 0 else c) (fun y => if y = (x : Int) then c else 0)
  have h3 : tot (sides n) (fun y => (if y = (x : Int) then 0 else c) + (if y = (x : Int) then c else 0)) = tot (sides n) (fun _ => c) := tot_congr (fun y _ => by by_cases h : y = (x : Int) <;> simp [h])
  rw [h3, tot_const, h1] at h2
  exact h2.symm
theorem cnt_self (V : List (List Int)) (x : Int) : cnt V x x = 0 := by
  unfold cnt
  rw [List.countP_eq_zero]
  intro p _
  simp
def rowT (n : Nat) (V : List (List Int)) (x : Int) : Nat := tot (sides n) (fun y => cnt V x y)
theorem all_twice {n : Nat} {V : List (List Int)} (hV : ∀ p ∈ V, p.Perm (sides n)) : 2 * tot (sides n) (fun x => rowT n V x) + n * V.length = n * (n * V.length) := by
  have h1 : tot (sides n) (fun x => tot (sides n) (fun y => cnt V x y)) = tot (sides n) (fun y => tot (sides n) (fun x => cnt V x y)) := tot_swap _ _ _
  have h2 : tot (sides n) (fun x => rowT n V x) + tot (sides n) (fun x => rowT n V x) = tot (sides n) (fun x => tot (sides n) (fun y => cnt V x y + cnt V y x)) := by
    have e1 : tot (sides n) (fun x => tot (sides n) (fun y => cnt V x y + cnt V y x)) = tot (sides n) (fun x => tot (sides n) (fun y => cnt V x y) + tot (sides n) (fun y => cnt V y x)) := tot_congr (fun x _ => tot_add _ _ _)
    rw [e1, tot_add]
    unfold rowT
    rw [← h1]
  have h3 : tot (sides n) (fun x => tot (sides n) (fun y => cnt V x y + cnt V y x)) + n * V.length = n * (n * V.length) := by
    have e2 : ∀ x ∈ sides n, tot (sides n) (fun y => cnt V x y + cnt V y x) + V.length = n * V.length := fun x hx => by
      have hx := mem_sides.1 hx
      obtain ⟨k, rfl⟩ : ∃ k : Nat, x = k := ⟨x.toNat, by omega⟩
      rw [← tot_but (show k < n by omega) V.length]
      congr 1
      refine tot_congr (fun y hy => ?_)
      have hy := mem_sides.1 hy
      obtain ⟨m, rfl⟩ : ∃ m : Nat, y = m := ⟨y.toNat, by omega⟩
      by_cases h : (m : Int) = k
      · rw [if_pos h, h, cnt_self]
      · rw [if_neg h]; exact duel_both hV (by omega) (by omega) (by omega)
    have e3 : tot (sides n) (fun x => tot (sides n) (fun y => cnt V x y + cnt V y x) + V.length) = tot (sides n) (fun _ => n * V.length) := tot_congr e2
    rw [tot_add, tot_const, tot_const] at e3
    exact e3
  omega
theorem row_ge {n : Nat} {V : List (List Int)} (hV : ∀ p ∈ V, p.Perm (sides n)) {x : Nat} (hb : Beats n V x) : n * (V.length + 1) ≤ 2 * rowT n V x + (V.length + 1) := by
  rw [← tot_but hb.1 (V.length + 1)]
  have h : tot (sides n) (fun y => if y = (x : Int) then 0 else V.length + 1) ≤ tot (sides n) (fun y => cnt V x y + cnt V x y) := tot_le (fun y hy => by
    have hy := mem_sides.1 hy
    obtain ⟨m, rfl⟩ : ∃ m : Nat, y = m := ⟨y.toNat, by omega⟩
    by_cases h : (m : Int) = x
    · rw [if_pos h]; omega
    · rw [if_neg h]
      have a := hb.2 m (by omega) (by omega)
      have b := duel_both hV hb.1 (show m < n by omega) (by omega)
      omega)
  rw [tot_add] at h
  have e : tot (sides n) (fun y => cnt V x y) = rowT n V x := rfl
  rw [e] at h
  omega
theorem row_le {n : Nat} {V : List (List Int)} (hV : ∀ p ∈ V, p.Perm (sides n)) {x : Nat} (hx : x < n) (hl : ∀ y : Nat, y < n → y ≠ x → cnt V x y < cnt V y x) : 2 * rowT n V x + V.length + n ≤ n * V.length + 1 := by
  have e1 := tot_but hx V.length
  have e2 := tot_but hx 1
  have h : tot (sides n) (fun y => (cnt V x y + cnt V x y) + (if y = (x : Int) then 0 else 1)) ≤ tot (sides n) (fun y => if y = (x : Int) then 0 else V.length) := tot_le (fun y hy => by
    have hy := mem_sides.1 hy
    obtain ⟨m, rfl⟩ : ∃ m : Nat, y = m := ⟨y.toNat, by omega⟩
    by_cases h : (m : Int) = x
    · rw [if_pos h, if_pos h, h, cnt_self]; exact Nat.le_refl _
    · rw [if_neg h, if_neg h]
      have a := hl m (by omega) (by omega)
      have b := duel_both hV hx (show m < n by omega) (by omega)
      omega)
  rw [tot_add, tot_add] at h
  have e : tot (sides n) (fun y => cnt V x y) = rowT n V x := rfl
  rw [e] at h
  omega
theorem pts_row {n : Nat} {V : List (List Int)} (hV : ∀ p ∈ V, p.Perm (sides n)) {x : Nat} (hx : x < n) : pts n V x = rowT n V x := (sum_duels hV hx).symm
/-- Who beats all others has more points than somebody. -/
theorem beats_points {n : Nat} (h2 : 2 ≤ n) (h6 : n ≤ 6) {V : List (List Int)} (hV : ∀ p ∈ V, p.Perm (sides n)) {x : Nat} (hb : Beats n V x) : ∃ y : Nat, y < n ∧ pts n V y < pts n V x := by
  rcases Classical.em (∃ y : Nat, y < n ∧ pts n V y < pts n V x) with h | h
  · exact h
  · exfalso
    have hall : ∀ y ∈ sides n, rowT n V x ≤ rowT n V y := fun y hy => by
      have hy := mem_sides.1 hy
      obtain ⟨m, rfl⟩ : ∃ m : Nat, y = m := ⟨y.toNat, by omega⟩
      rcases Nat.lt_or_ge (rowT n V m) (rowT n V x) with h' | h'
      · exact absurd ⟨m, by omega, by rw [pts_row hV (show m < n by omega), pts_row hV hb.1]; omega⟩ h
      · exact h'
    have h3 : tot (sides n) (fun _ => rowT n V x) ≤ tot (sides n) (fun y => rowT n V y) := tot_le hall
    rw [tot_const] at h3
    have h4 := all_twice hV
    have h5 := row_ge hV hb
    have h7 : n = 2 ∨ n = 3 ∨ n = 4 ∨ n = 5 ∨ n = 6 := by omega
    rcases h7 with rfl | rfl | rfl | rfl | rfl <;> omega
/-- Who is beaten by all others has fewer points than somebody. -/
theorem loser_points {n : Nat} (h2 : 2 ≤ n) (h6 : n ≤ 6) {V : List (List Int)} (hV : ∀ p ∈ V, p.Perm (sides n)) {x : Nat} (hx : x < n) (hl : ∀ y : Nat, y < n → y ≠ x → cnt V x y < cnt V y x) : ∃ y : Nat, y < n ∧ pts n V x < pts n V y := by
  rcases Classical.em (∃ y : Nat, y < n ∧ pts n V x < pts n V y) with h | h
  · exact h
  · exfalso
    have hall : ∀ y ∈ sides n, rowT n V y ≤ rowT n V x := fun y hy => by
      have hy := mem_sides.1 hy
      obtain ⟨m, rfl⟩ : ∃ m : Nat, y = m := ⟨y.toNat, by omega⟩
      rcases Nat.lt_or_ge (rowT n V x) (rowT n V m) with h' | h'
      · exact absurd ⟨m, by omega, by rw [pts_row hV (show m < n by omega), pts_row hV hx]; omega⟩ h
      · exact h'
    have h3 : tot (sides n) (fun y => rowT n V y) ≤ tot (sides n) (fun _ => rowT n V x) := tot_le hall
    rw [tot_const] at h3
    have h4 := all_twice hV
    have h5 := row_le hV hx hl
    have h7 : n = 2 ∨ n = 3 ∨ n = 4 ∨ n = 5 ∨ n = 6 := by omega
    rcases h7 with rfl | rfl | rfl | rfl | rfl <;> omega
theorem not_greatest {l : List Int} {x y : Nat} (hy : y < l.length) (h : l.getD x 0 < l.getD y 0) : (x : Int) ∉ greatest l := fun hm => by
  have := (mem_greatest.1 hm).2
  have := most_ge hy
  omega
theorem loser_win2 {n : Nat} (h2 : 2 ≤ n) (h6 : n ≤ 6) {V : List (List Int)} (hV : ∀ p ∈ V, p.Perm (sides n)) {x : Nat} (hx : x < n) (hl : ∀ y : Nat, y < n → y ≠ x → cnt V x y < cnt V y x) : (x : Int) ∉ winL 2 n V := by
  show (x : Int) ∉ greatest (pointsL n V)
  obtain ⟨y, hy, hlt⟩ := loser_points h2 h6 hV hx hl
  refine not_greatest (y := y) (by simp [pointsL, sides_len]; exact hy) ?_
  unfold pointsL
  rw [map_sides_getD n _ hx, map_sides_getD n _ hy]
  exact hlt
theorem winTo_lose (M : List (List Int)) (x j : Nat) (h : ∀ y, y < j → y ≠ x → ent M x y < ent M y x) : winTo M x j = -((j : Int) - if x < j then 1 else 0) := by
  induction j with
  | zero => simp [winTo]
  | succ j ih =>
    have ih := ih (fun y hy hne => h y (by omega) hne)
    simp only [winTo]
    by_cases hxj : x = j
    · subst hxj
      have h0 : sg (ent M x x - ent M x x) = 0 := by unfold sg; rw [if_neg (by omega), if_neg (by omega)]
      rw [h0, ih, if_neg (by omega), if_pos (by omega)]; omega
    · have h1 := h j (by omega) (fun e => hxj e.symm)
      have hs : sg (ent M x j - ent M j x) = -1 := by unfold sg; rw [if_neg (by omega), if_pos (by omega)]
      rw [hs, ih]
      by_cases h2 : x < j
      · rw [if_pos h2, if_pos (by omega)]; omega
      · rw [if_neg h2, if_neg (by omega)]; omega
theorem winTo_min (M : List (List Int)) (y j : Nat) {x : Nat} (hxj : x < j) (hyj : y < j) (hne : y ≠ x) (h : ent M x y < ent M y x) : -((j : Int) - 1) < winTo M y j := by
  have hgen : ∀ k : Nat, -((k : Int) - (if y < k then 1 else 0)) + (if x < k then 2 else 0) ≤ winTo M y k := by
    intro k
    induction k with
    | zero => simp [winTo]
    | succ k ih =>
      simp only [winTo]
      have hs : -1 ≤ sg (ent M y k - ent M k y) := by unfold sg; split <;> (try split) <;> omega
      by_cases hyk : y = k
      · subst hyk
        have h0 : sg (ent M y y - ent M y y) = 0 := by unfold sg; rw [if_neg (by omega), if_neg (by omega)]
        rw [h0]
        rw [if_neg (show ¬ y < y by omega)] at ih
        rw [if_pos (show y < y + 1 by omega)]
        by_cases hx : x < y
        · rw [if_pos hx] at ih; rw [if_pos (by omega)]; omega
        · rw [if_neg hx] at ih; rw [if_neg (by omega)]; omega
      · by_cases hxk : x = k
        · subst hxk
          have h1 : sg (ent M y x - ent M x y) = 1 := sg_one.2 (by omega)
          rw [h1]
          rw [if_neg (show ¬ x < x by omega)] at ih
          rw [if_pos (show x < x + 1 by omega)]
          by_cases hy : y < x
          · rw [if_pos hy] at ih; rw [if_pos (by omega)]; omega
          · rw [if_neg hy] at ih; rw [if_neg (by omega)]; omega
        · by_cases hy : y < k
          · rw [if_pos hy] at ih; rw [if_pos (show y < k + 1 by omega)]
            by_cases hx : x < k
            · rw [if_pos hx] at ih; rw [if_pos (by omega)]; omega
            · rw [if_neg hx] at ih; rw [if_neg (by omega)]; omega
          · rw [if_neg hy] at ih; rw [if_neg (show ¬ y < k + 1 by omega)]
            by_cases hx : x < k
            · rw [if_pos hx] at ih; rw [if_pos (by omega)]; omega
            · rw [if_neg hx] at ih; rw [if_neg (by omega)]; omega
  have := hgen j
  rw [if_pos hyj, if_pos hxj] at this
  omega
theorem loser_win3 {n : Nat} (h2 : 2 ≤ n) {V : List (List Int)} {x : Nat} (hx : x < n) (hl : ∀ y : Nat, y < n → y ≠ x → cnt V x y < cnt V y x) : (x : Int) ∉ winL 3 n V := by
  show (x : Int) ∉ greatest (winsL n (duelsM n V))
  obtain ⟨y, hy, hne⟩ : ∃ y : Nat, y < n ∧ y ≠ x := by
    by_cases h : x = 0
    · exact ⟨1, by omega, by omega⟩
    · exact ⟨0, by omega, by omega⟩
  have hlt : ∀ z, z < n → z ≠ x → ent (duelsM n V) x z < ent (duelsM n V) z x := fun z hz hzx => by
    rw [ent_duels n V hx hz, ent_duels n V hz hx]
    have := hl z hz hzx
    omega
  refine not_greatest (y := y) (by simp [winsL, sides_len]; exact hy) ?_
  rw [winsL_at n _ hx, winsL_at n _ hy, winTo_lose _ x n hlt, if_pos hx]
  exact winTo_min _ y n hx hy hne (hlt y hy hne)
end Fm
/-
  The rounds as the program counts them: places in the list of those left, the first of them on a ballot: lists of ints alone, no Go text.
-/
namespace Fm
set_option linter.unusedVariables false

/-- Of the first i of those left: the place of the last one with the fewest, and how many. -/
def wkTo (V : List (List Int)) (left : List Int) : Nat → Nat × Int
  | 0 => (0, V.length)
  | i + 1 => if (tops V left (left.getD i 0) : Int) ≤ (wkTo V left i).2 then (i, (tops V left (left.getD i 0) : Int)) else wkTo V left i
theorem wk_bd (V : List (List Int)) (left : List Int) (i : Nat) : 0 ≤ (wkTo V left i).2 ∧ (wkTo V left i).2 ≤ V.length := by
  induction i with
  | zero => simp [wkTo]
  | succ i ih =>
    have := tops_le V left (left.getD i 0)
    simp only [wkTo]
    split
    · exact ⟨Int.natCast_nonneg _, by show ((tops V left (left.getD i 0) : Nat) : Int) ≤ _; omega⟩
    · exact ih
theorem wk_out (V : List (List Int)) (left : List Int) (h0 : ∀ x ∈ left, 0 ≤ x) : ∀ i, i < left.length → outTo V left (i + 1) = (left.getD (wkTo V left (i + 1)).1 0, (wkTo V left (i + 1)).2) ∧ (wkTo V left (i + 1)).1 < i + 1 := by
  intro i
  induction i with
  | zero =>
    intro h
    have ht : (tops V left (left.getD 0 0) : Int) ≤ V.length := by have := tops_le V left (left.getD 0 0); omega
    have e1 : outTo V left 1 = (left.getD 0 0, (tops V left (left.getD 0 0) : Int)) := by
      rw [outTo]
      exact if_pos (Or.inl (show ((-1 : Int), (0 : Int)).1 < 0 by decide))
    have e2 : wkTo V left 1 = (0, (tops V left (left.getD 0 0) : Int)) := by
      rw [wkTo]
      exact if_pos ht
    rw [Nat.zero_add, e1, e2]
    exact ⟨rfl, Nat.lt_succ_self 0⟩
  | succ i ih =>
    intro h
    obtain ⟨e1, e2⟩ := ih (by omega)
    have hn := h0 _ (getD_mem left (wkTo V left (i + 1)).1 (by omega))
    rw [outTo, wkTo, e1]
    by_cases hc : (tops V left (left.getD (i + 1) 0) : Int) ≤ (wkTo V left (i + 1)).2
    · rw [if_pos hc, if_pos (Or.inr hc)]
      exact ⟨rfl, by show i + 1 < i + 1 + 1; omega⟩
    · rw [if_neg hc, if_neg (by
        rintro (h | h)
        · simp only at h; omega
        · exact hc h)]
      exact ⟨rfl, by omega⟩
theorem erase_ne {l : List Int} (hn : l.Nodup) : ∀ {k : Nat}, k < l.length → l.eraseIdx k = l.filter fun y => !(y == l.getD k 0) := by
  induction l with
  | nil => intro k hk; simp at hk
  | cons a l ih =>
    rw [List.nodup_cons] at hn
    intro k hk
    cases k with
    | zero =>
      rw [List.eraseIdx_cons_zero, List.filter_cons]
      have e : l.filter (fun y => !(y == a)) = l := by
        rw [List.filter_eq_self]
        intro y hy
        have : y ≠ a := fun e => hn.1 (e ▸ hy)
        simpa using this
      simp [e]
    | succ k =>
      have hk' : k < l.length := by simpa using hk
      have hm : l.getD k 0 ∈ l := getD_mem l k hk'
      have hne : a ≠ l.getD k 0 := fun e => hn.1 (e ▸ hm)
      rw [List.eraseIdx_cons_succ, ih hn.2 hk', List.filter_cons, List.getD_cons_succ]
      rw [beq_eq_false_iff_ne.2 hne]
      rfl
theorem left_erase (V : List (List Int)) (n : Nat) (h1 : 1 ≤ n) {j : Nat} (hj : j < n - 1) : (wkTo V (leftTo V n j) (n - j)).1 < n - j ∧ (leftTo V n j).eraseIdx (wkTo V (leftTo V n j) (n - j)).1 = leftTo V n (j + 1) := by
  have h := left_ok V n h1 j (by omega)
  have hl := h.len
  obtain ⟨m, hm⟩ : ∃ m, n - j = m + 1 := ⟨n - j - 1, by omega⟩
  have hw := wk_out V (leftTo V n j) (fun x hx => (h.rng x hx).1) m (by omega)
  rw [hm]
  refine ⟨hw.2, ?_⟩
  rw [erase_ne h.nodup (by omega)]
  show _ = (leftTo V n j).filter fun x => !(x == outOf V (leftTo V n j))
  unfold outOf
  rw [hl, hm, hw.1]
theorem only_first {left p : List Int} {i : Nat} (hi : i < p.length) (h1 : decide (p.getD i 0 ∈ left) = true) (h2 : ∀ t, t < i → decide (p.getD t 0 ∈ left) = false) : (onlyIn left p).getD 0 0 = p.getD i 0 := by
  have e : p = p.take i ++ p.getD i 0 :: p.drop (i + 1) := by
    rw [getD_get hi, ← List.drop_eq_getElem_cons hi, List.take_append_drop]
  have e2 : (p.take i).filter (fun y => decide (y ∈ left)) = [] := by
    rw [List.filter_eq_nil_iff]
    intro y hy
    obtain ⟨t, ht, rfl⟩ := List.getElem_of_mem hy
    have htl : t < i := by rw [List.length_take] at ht; omega
    have := h2 t htl
    rw [getD_get (by omega)] at this
    rw [List.getElem_take, this]
    decide
  unfold onlyIn
  generalize p.getD i 0 = x at *
  rw [e, List.filter_append, e2, List.filter_cons, h1]
  rfl

theorem tchk_tab {n : Nat} {M : List (List Int)} (h1 : 1 ≤ n) (h6 : n ≤ 6) (hl : M.length = n) (hr : ∀ l ∈ M, l.length = n) (hb : ∀ x y, 0 ≤ ent M x y ∧ ent M x y ≤ 30) (hd : ∀ x, x < n → ent M x x = 0) : tchk M = 0 := by
  subst hl
  unfold tchk
  rw [if_neg (by omega), if_neg, if_pos (show diagOk M from hd)]
  rw [Classical.not_not, firstErr_zero]
  intro r hrm
  rw [rowErr_zero]
  refine ⟨hr r hrm, fun x hx => ?_⟩
  obtain ⟨i, hi, rfl⟩ := List.getElem_of_mem hrm
  obtain ⟨j, hj, rfl⟩ := List.getElem_of_mem hx
  have := hb i j
  unfold ent at this
  rw [List.getD_eq_getElem?_getD (l := M), List.getElem?_eq_getElem hi, Option.getD_some, List.getD_eq_getElem?_getD, List.getElem?_eq_getElem hj] at this
  exact this
theorem tchk_duels {n : Nat} (h1 : 1 ≤ n) (h6 : n ≤ 6) {V : List (List Int)} (hV : V.length ≤ 30) : tchk (duelsM n V) = 0 :=
  tchk_tab h1 h6 (duelsM_len n V) (fun l hl => duelsM_rows hl) (ent_duels_bd n V hV) fun x hx => by
    rw [ent_duels n V hx hx]
    unfold cnt
    simp
/-- What the alternatives have, by rules 1 to 4. -/
def scoreL (rule : Int) (n : Nat) (V : List (List Int)) : List Int :=
  if rule = 1 then firstsL n V else if rule = 2 then pointsL n V else if rule = 3 then winsL n (duelsM n V) else (worstL n (duelsM n V)).map fun x => -x
theorem scoreL_len (rule : Int) (n : Nat) (V : List (List Int)) : (scoreL rule n V).length = n := by
  unfold scoreL
  split
  · simp [firstsL, sides_len]
  · split
    · simp [pointsL, sides_len]
    · split
      · simp [winsL, sides_len]
      · simp [worstL, sides_len]
theorem winL_score {rule : Int} (h1 : 1 ≤ rule) (h4 : rule ≤ 4) (n : Nat) (V : List (List Int)) : winL rule n V = greatest (scoreL rule n V) := by
  unfold winL scoreL
  by_cases e1 : rule = 1
  · rw [if_pos e1, if_pos e1]
  · rw [if_neg e1, if_neg e1]
    by_cases e2 : rule = 2
    · rw [if_pos e2, if_pos e2]
    · rw [if_neg e2, if_neg e2]
      by_cases e3 : rule = 3
      · rw [if_pos e3, if_pos e3]
      · rw [if_neg e3, if_neg e3, if_pos (by omega)]
/-- The first k negated. -/
def negTo (l : List Int) (k : Nat) : List Int := (l.take k).map (fun x => -x) ++ l.drop k
theorem negTo_len (l : List Int) (k : Nat) : (negTo l k).length = l.length := by
  unfold negTo; simp; omega
theorem negTo_at (l : List Int) {k : Nat} (h : k < l.length) : (negTo l k).getD k 0 = l.getD k 0 := by
  unfold negTo
  rw [List.getD_eq_getElem?_getD, List.getElem?_append_right (by simp; omega), List.getD_eq_getElem?_getD]
  simp [Nat.min_eq_left (Nat.le_of_lt h)]
theorem negTo_set (l : List Int) {k : Nat} (h : k < l.length) : (negTo l k).set k (-(l.getD k 0)) = negTo l (k + 1) := by
  unfold negTo
  have e : l.drop k = l.getD k 0 :: l.drop (k + 1) := by
    rw [List.drop_eq_getElem_cons h, getD_get h]
  rw [e, List.set_append_right _ _ (by simp; omega), take_succ_getD l k h, List.map_append]
  have e2 : k - ((l.take k).map fun x => -x).length = 0 := by simp; omega
  rw [e2]
  simp
theorem negTo_zero (l : List Int) : negTo l 0 = l := by simp [negTo]
theorem negTo_end (l : List Int) : negTo l l.length = l.map (fun x => -x) := by simp [negTo]
theorem worstTo_le30 {M : List (List Int)} (hb : ∀ x y, 0 ≤ ent M x y ∧ ent M x y ≤ 30) (x j : Nat) : worstTo M x j ≤ 30 := by
  induction j with
  | zero => simp [worstTo]
  | succ j ih =>
    simp only [worstTo]
    have := hb x j
    have := hb j x
    omega
end Fm
/-
  One who is raised on a ballot: the counts of the vote, and who has the most: lists of ints alone, no Go text.
-/
namespace Fm
set_option linter.unusedVariables false

theorem getD_setV (V : List (List Int)) {i : Nat} (hi : i < V.length) : V = V.take i ++ V.getD i [] :: V.drop (i + 1) := by
  rw [List.getD_eq_getElem?_getD, List.getElem?_eq_getElem hi, Option.getD_some, ← List.drop_eq_getElem_cons hi, List.take_append_drop]
theorem setV (V : List (List Int)) {i : Nat} (hi : i < V.length) (q : List Int) : V.set i q = V.take i ++ q :: V.drop (i + 1) := by
  rw [List.set_eq_take_append_cons_drop, if_pos hi]
theorem countP_up (V : List (List Int)) {i : Nat} (hi : i < V.length) (q : List Int) (f : List Int → Bool) (h : f (V.getD i []) = true → f q = true) : V.countP f ≤ (V.set i q).countP f := by
  rw [setV V hi]
  have e := congrArg (List.countP f) (getD_setV V hi)
  rw [e, List.countP_append, List.countP_append, List.countP_cons, List.countP_cons]
  by_cases hf : f (V.getD i []) = true
  · rw [if_pos hf, if_pos (h hf)]; omega
  · rw [if_neg hf]; omega
theorem countP_down (V : List (List Int)) {i : Nat} (hi : i < V.length) (q : List Int) (f : List Int → Bool) (h : f q = true → f (V.getD i []) = true) : (V.set i q).countP f ≤ V.countP f := by
  rw [setV V hi]
  have e := congrArg (List.countP f) (getD_setV V hi)
  rw [e, List.countP_append, List.countP_append, List.countP_cons, List.countP_cons]
  by_cases hf : f q = true
  · rw [if_pos hf, if_pos (h hf)]; omega
  · rw [if_neg hf]; omega

structure Up (n : Nat) (V V' : List (List Int)) (x : Nat) : Prop where
  a : ∀ y : Nat, y < n → cnt V x y ≤ cnt V' x y
  b : ∀ y : Nat, y < n → cnt V' y x ≤ cnt V y x
  c : ∀ y z : Nat, y < n → z < n → y ≠ x → z ≠ x → cnt V' y z = cnt V y z
  f : fst1 V x ≤ fst1 V' x
  g : ∀ y : Nat, y < n → y ≠ x → fst1 V' y ≤ fst1 V y

theorem pos_tau {n : Nat} {p : List Int} (hp : p.Perm (sides n)) {k : Nat} (hk : k + 1 < n) {y : Nat} (hy : y < n) : pos (swp p k) y = tau k (pos p y) := by
  have hn : p.Nodup := hp.nodup_iff.2 (sides_nodup n)
  have hl : p.length = n := by have := hp.length_eq; rwa [sides_len] at this
  have hm : (y : Int) ∈ p := hp.mem_iff.2 (mem_sides.2 ⟨by omega, by omega⟩)
  obtain ⟨m, hm1, hm2⟩ := List.getElem_of_mem hm
  have e : p.getD m 0 = (y : Int) := by rw [getD_get hm1]; exact hm2
  have h := pos_swp hn hl hk (k := m) (by omega)
  have h2 := pos_idx hn (k := m) hm1
  rw [e] at h h2
  rw [h, h2]
theorem up_swp {n : Nat} {V : List (List Int)} (hV : ∀ p ∈ V, p.Perm (sides n)) {i k x : Nat} (hi : i < V.length) (hk : k + 1 < n) (hx : (V.getD i []).getD (k + 1) 0 = x) : Up n V (V.set i (swp (V.getD i []) k)) x := by
  have hp := hV _ (memR hi)
  have hn : (V.getD i []).Nodup := hp.nodup_iff.2 (sides_nodup n)
  have hl : (V.getD i []).length = n := by have := hp.length_eq; rwa [sides_len] at this
  have hxm : (x : Int) ∈ V.getD i [] := by rw [← hx]; exact getD_mem _ (k + 1) (by omega)
  have hxn : x < n := by have := mem_sides.1 (hp.mem_iff.1 hxm); omega
  have hpx : pos (V.getD i []) x = (k : Int) + 1 := by
    have := pos_idx hn (k := k + 1) (by omega)
    rw [hx] at this
    rw [this]; omega
  have hqx : pos (swp (V.getD i []) k) x = (k : Int) := by
    rw [pos_tau hp hk hxn, hpx]
    unfold tau
    rw [if_neg (by omega), if_pos rfl]
  have hne : ∀ y : Nat, y < n → y ≠ x → pos (V.getD i []) y ≠ (k : Int) + 1 := fun y hy hyx h => by
    have hym : (y : Int) ∈ V.getD i [] := hp.mem_iff.2 (mem_sides.2 ⟨by omega, by omega⟩)
    have := pos_inj hn hym hxm (by rw [h, hpx])
    omega
  have hq := fun (y : Nat) (hy : y < n) => pos_tau hp hk hy
  refine ⟨fun y hy => countP_up V hi _ _ ?_, fun y hy => countP_down V hi _ _ ?_, fun y z hy hz hyx hzx => Nat.le_antisymm (countP_down V hi _ _ ?_) (countP_up V hi _ _ ?_), countP_up V hi _ _ ?_, fun y hy hyx => countP_down V hi _ _ ?_⟩
  · simp only [decide_eq_true_eq]
    intro h
    rw [hqx, hq y hy]
    rw [hpx] at h
    unfold tau
    rw [if_neg (by omega), if_neg (by omega)]; omega
  · simp only [decide_eq_true_eq]
    intro h
    rw [hqx, hq y hy] at h
    rw [hpx]
    unfold tau at h
    split at h
    · omega
    · split at h <;> omega
  · simp only [decide_eq_true_eq]
    intro h
    have h1 := hne y hy hyx
    have h2 := hne z hz hzx
    rw [hq y hy, hq z hz] at h
    unfold tau at h
    rw [if_neg h1, if_neg h2] at h
    split at h <;> split at h <;> omega
  · simp only [decide_eq_true_eq]
    intro h
    have h1 := hne y hy hyx
    have h2 := hne z hz hzx
    rw [hq y hy, hq z hz]
    unfold tau
    rw [if_neg h1, if_neg h2]
    split <;> split <;> omega
  · simp only [decide_eq_true_eq]
    intro h
    rw [hpx] at h
    omega
  · simp only [decide_eq_true_eq]
    intro h
    have h1 := hne y hy hyx
    rw [hq y hy] at h
    unfold tau at h
    rw [if_neg h1] at h
    split at h <;> omega

theorem up_great {l l' : List Int} (hl : l'.length = l.length) {x : Nat} (hx : (x : Int) ∈ greatest l) (h1 : l.getD x 0 ≤ l'.getD x 0) (h2 : ∀ y, y < l.length → y ≠ x → l'.getD y 0 ≤ l.getD y 0) :
    (x : Int) ∈ greatest l' ∧ ∀ y : Nat, (y : Int) ∈ greatest l' → (y : Int) ∈ greatest l := by
  obtain ⟨hxl, hxm⟩ := mem_greatest.1 hx
  have hall : ∀ y, y < l.length → l'.getD y 0 ≤ l'.getD x 0 := fun y hy => by
    by_cases e : y = x
    · rw [e]; exact Int.le_refl _
    · have := h2 y hy e
      have := most_ge hy
      omega
  have hm : l'.getD x 0 = most l' := by
    have a := most_ge (l := l') (k := x) (by omega)
    obtain ⟨j, hj, he⟩ := List.getElem_of_mem (most_mem (l := l') (by omega))
    have b := hall j (by omega)
    rw [getD_get hj, he] at b
    omega
  refine ⟨mem_greatest.2 ⟨by omega, hm⟩, fun y hy => ?_⟩
  obtain ⟨hyl, hym⟩ := mem_greatest.1 hy
  rw [hl] at hyl
  by_cases e : y = x
  · rw [e]; exact hx
  · refine mem_greatest.2 ⟨hyl, ?_⟩
    have := h2 y hyl e
    have := most_ge hyl
    omega

theorem sg_mono {a b : Int} (h : a ≤ b) : sg a ≤ sg b := by
  unfold sg
  split <;> split <;> (try split) <;> omega
theorem score1_at (n : Nat) (V : List (List Int)) {y : Nat} (hy : y < n) : (scoreL 1 n V).getD y 0 = fst1 V y := map_sides_getD n _ hy
theorem score2_at (n : Nat) (V : List (List Int)) {y : Nat} (hy : y < n) : (scoreL 2 n V).getD y 0 = pts n V y := map_sides_getD n _ hy
theorem score3_at (n : Nat) (V : List (List Int)) {y : Nat} (hy : y < n) : (scoreL 3 n V).getD y 0 = winTo (duelsM n V) y n := winsL_at n _ hy
theorem score4_at (n : Nat) (V : List (List Int)) {y : Nat} (hy : y < n) : (scoreL 4 n V).getD y 0 = -(worstTo (duelsM n V) y n) := worstL_at n _ hy

theorem up_score {rule : Int} (h1 : 1 ≤ rule) (h4 : rule ≤ 4) {n : Nat} {V V' : List (List Int)} {x : Nat} (hx : x < n) (hV : ∀ p ∈ V, p.Perm (sides n)) (hV' : ∀ p ∈ V', p.Perm (sides n)) (u : Up n V V' x) :
    (scoreL rule n V).getD x 0 ≤ (scoreL rule n V').getD x 0 ∧ ∀ y, y < n → y ≠ x → (scoreL rule n V').getD y 0 ≤ (scoreL rule n V).getD y 0 := by
  have e : rule = 1 ∨ rule = 2 ∨ rule = 3 ∨ rule = 4 := by omega
  rcases e with rfl | rfl | rfl | rfl
  · refine ⟨?_, fun y hy hyx => ?_⟩
    · rw [score1_at n V hx, score1_at n V' hx]
      have := u.f
      omega
    · rw [score1_at n V hy, score1_at n V' hy]
      have := u.g y hy hyx
      omega
  · refine ⟨?_, fun y hy hyx => ?_⟩
    · rw [score2_at n V hx, score2_at n V' hx, pts_row hV hx, pts_row hV' hx]
      have : rowT n V x ≤ rowT n V' x := tot_le fun z hz => by
        have hz := mem_sides.1 hz
        obtain ⟨z', rfl⟩ : ∃ z' : Nat, z = z' := ⟨z.toNat, by omega⟩
        exact u.a z' (by omega)
      omega
    · rw [score2_at n V hy, score2_at n V' hy, pts_row hV hy, pts_row hV' hy]
      have : rowT n V' y ≤ rowT n V y := tot_le fun z hz => by
        have hz := mem_sides.1 hz
        obtain ⟨z', rfl⟩ : ∃ z' : Nat, z = z' := ⟨z.toNat, by omega⟩
        by_cases e : z' = x
        · subst e; exact u.b y hy
        · exact Nat.le_of_eq (u.c y z' hy (by omega) hyx e)
      omega
  · refine ⟨?_, fun y hy hyx => ?_⟩
    · rw [score3_at n V hx, score3_at n V' hx, winTo_sum, winTo_sum]
      refine sumTo_le fun z hz => sg_mono ?_
      rw [ent_duels n V hx hz, ent_duels n V hz hx, ent_duels n V' hx hz, ent_duels n V' hz hx]
      have := u.a z hz
      have := u.b z hz
      omega
    · rw [score3_at n V hy, score3_at n V' hy, winTo_sum, winTo_sum]
      refine sumTo_le fun z hz => sg_mono ?_
      rw [ent_duels n V hy hz, ent_duels n V hz hy, ent_duels n V' hy hz, ent_duels n V' hz hy]
      by_cases e : z = x
      · subst e
        have := u.a y hy
        have := u.b y hy
        omega
      · have := u.c y z hy hz hyx e
        have := u.c z y hz hy e hyx
        omega
  · refine ⟨?_, fun y hy hyx => ?_⟩
    · rw [score4_at n V hx, score4_at n V' hx]
      rcases worst_att (duelsM n V') x n with h | ⟨z, hz, h⟩
      · have := worstTo_nonneg (duelsM n V) x n
        omega
      · have w := worst_ge (duelsM n V) x hz
        rw [ent_duels n V hx hz, ent_duels n V hz hx] at w
        rw [ent_duels n V' hx hz, ent_duels n V' hz hx] at h
        have := u.a z hz
        have := u.b z hz
        omega
    · rw [score4_at n V hy, score4_at n V' hy]
      rcases worst_att (duelsM n V) y n with h | ⟨z, hz, h⟩
      · have := worstTo_nonneg (duelsM n V') y n
        omega
      · have w := worst_ge (duelsM n V') y hz
        rw [ent_duels n V' hy hz, ent_duels n V' hz hy] at w
        rw [ent_duels n V hy hz, ent_duels n V hz hy] at h
        by_cases e : z = x
        · subst e
          have := u.a y hy
          have := u.b y hy
          omega
        · have := u.c y z hy hz hyx e
          have := u.c z y hz hy e hyx
          omega
theorem up_win {rule : Int} (h1 : 1 ≤ rule) (h4 : rule ≤ 4) {n : Nat} {V V' : List (List Int)} {x : Nat} (hx : x < n) (hV : ∀ p ∈ V, p.Perm (sides n)) (hV' : ∀ p ∈ V', p.Perm (sides n)) (u : Up n V V' x) (hw : (x : Int) ∈ winL rule n V) :
    (x : Int) ∈ winL rule n V' ∧ ∀ y ∈ winL rule n V', y ∈ winL rule n V := by
  rw [winL_score h1 h4] at hw ⊢
  rw [winL_score h1 h4]
  obtain ⟨s1, s2⟩ := up_score h1 h4 hx hV hV' u
  obtain ⟨a, b⟩ := up_great (l := scoreL rule n V) (l' := scoreL rule n V') (by rw [scoreL_len, scoreL_len]) hw s1 (fun y hy => s2 y (by rwa [scoreL_len] at hy))
  refine ⟨a, fun y hy => ?_⟩
  have := greatest_rng hy
  obtain ⟨y', rfl⟩ : ∃ y' : Nat, y = y' := ⟨y.toNat, by omega⟩
  exact b y' hy
theorem perm_vchk {n : Nat} (h1 : 1 ≤ n) (h6 : n ≤ 6) {V : List (List Int)} (hl : V.length ≤ 30) (hV : ∀ p ∈ V, p.Perm (sides n)) : vchk n V = 0 :=
  vchk_ok (by omega) (by omega) (fun l hl => chk_perm (hV l hl) h1 h6)
/-- Nobody votes: all have won. -/
theorem none_win {rule : Int} (h1 : 1 ≤ rule) (h4 : rule ≤ 4) (n : Nat) : (winL rule n []).length = n := by
  have e : rule = 1 ∨ rule = 2 ∨ rule = 3 ∨ rule = 4 := by omega
  have hall : ∀ y, y < n → (scoreL rule n []).getD y 0 = 0 := fun y hy => by
    rcases e with rfl | rfl | rfl | rfl
    · rw [score1_at n [] hy]; rfl
    · rw [score2_at n [] hy]; rfl
    · rw [score3_at n [] hy, winTo_sum]
      refine sumTo_zero fun z hz => ?_
      rw [ent_duels n [] hy hz, ent_duels n [] hz hy]; rfl
    · rw [score4_at n [] hy]
      rcases worst_att (duelsM n []) y n with h | ⟨z, hz, h⟩
      · rw [h]; rfl
      · rw [ent_duels n [] hy hz, ent_duels n [] hz hy] at h
        rw [← h]; rfl
  rw [winL_score h1 h4]
  unfold greatest greatTo
  rw [scoreL_len, List.length_map, List.filter_eq_self.2, List.length_range]
  intro y hy
  have hyn := List.mem_range.1 hy
  have hm : most (scoreL rule n []) = 0 := by
    obtain ⟨j, hj, he⟩ := List.getElem_of_mem (most_mem (l := scoreL rule n []) (by rw [scoreL_len]; omega))
    have := hall j (by rwa [scoreL_len] at hj)
    rw [getD_get hj] at this
    rw [← he, this]
  rw [hall y hyn, hm]
  rfl
end Fm

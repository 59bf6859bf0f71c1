/-
  Who beats all others wins alone by duels and by greatest defeats; who is first on most ballots wins alone by first places and by rounds too: lists of ints alone, no Go text.
-/
import Derived.Test.YtbpenheomiejfaaMayMath
namespace Fm
set_option linter.unusedVariables false

theorem greatest_one {l : List Int} {x : Nat} (hx : x < l.length) (h : ∀ y, y < l.length → y ≠ x → l.getD y 0 < l.getD x 0) : greatest l = [(x : Int)] := by
  have hm : most l = l.getD x 0 := by
    obtain ⟨k, hk, he⟩ := List.getElem_of_mem (most_mem (l := l) (by omega))
    have hk' : l.getD k 0 = most l := by rw [getD_get hk]; exact he
    have hge := most_ge hx
    by_cases hkx : k = x
    · subst hkx; exact hk'.symm
    · have := h k hk hkx; omega
  have hall : ∀ m, m ≤ l.length → greatTo l m = if x < m then [(x : Int)] else [] := by
    intro m
    induction m with
    | zero => intro _; rfl
    | succ m ih =>
      intro hml
      rw [greatTo_succ, ih (by omega), hm]
      by_cases hmx : m = x
      · subst hmx
        rw [if_neg (by omega), if_pos rfl, if_pos (by omega)]; rfl
      · have hlt := h m (by omega) hmx
        rw [if_neg (show ¬ l.getD m 0 = l.getD x 0 by omega), List.append_nil]
        by_cases h2 : x < m
        · rw [if_pos h2, if_pos (by omega)]
        · rw [if_neg h2, if_neg (by omega)]
  unfold greatest
  rw [hall l.length (Nat.le_refl _), if_pos hx]
theorem winsL_at (n : Nat) (M : List (List Int)) {y : Nat} (h : y < n) : (winsL n M).getD y 0 = winTo M y n := by
  unfold winsL; rw [map_sides_getD n _ h]; simp
theorem worstL_at (n : Nat) (M : List (List Int)) {y : Nat} (h : y < n) : ((worstL n M).map fun x => -x).getD y 0 = -(worstTo M y n) := by
  unfold worstL
  rw [List.map_map]
  rw [map_sides_getD n _ h]; simp
theorem beats_wins {n : Nat} {V : List (List Int)} {x : Nat} (hb : Beats n V x) : winL 3 n V = [(x : Int)] := by
  show greatest (winsL n (duelsM n V)) = _
  have hl : (winsL n (duelsM n V)).length = n := by simp [winsL, sides_len]
  refine greatest_one (by rw [hl]; exact hb.1) (fun y hy hne => ?_)
  rw [hl] at hy
  rw [winsL_at n _ hy, winsL_at n _ hb.1, (win_beats hb.1).2 hb]
  have h1 := (winTo_max (duelsM n V) y n).1
  rw [if_pos hy] at h1
  have h2 : winTo (duelsM n V) y n ≠ n - 1 := fun h => hne (beats_one ((win_beats hy).1 h) hb)
  omega
theorem beats_worst {n : Nat} {V : List (List Int)} {x : Nat} (hb : Beats n V x) : winL 4 n V = [(x : Int)] := by
  show greatest ((worstL n (duelsM n V)).map fun x => -x) = _
  have hl : ((worstL n (duelsM n V)).map fun x => -x).length = n := by simp [worstL, sides_len]
  have h0 : worstTo (duelsM n V) x n = 0 := by
    rcases worst_att (duelsM n V) x n with h | ⟨y, hy, he⟩
    · exact h
    · have hn := worstTo_nonneg (duelsM n V) x n
      by_cases hyx : y = x
      · subst hyx; omega
      · have := hb.2 y hy hyx
        rw [ent_duels n V hy hb.1, ent_duels n V hb.1 hy] at he
        omega
  refine greatest_one (by rw [hl]; exact hb.1) (fun y hy hne => ?_)
  rw [hl] at hy
  rw [worstL_at n _ hy, worstL_at n _ hb.1, h0]
  have h1 := worst_ge (duelsM n V) y hb.1
  rw [ent_duels n V hb.1 hy, ent_duels n V hy hb.1] at h1
  have := hb.2 y hy hne
  omega

theorem tops_two (V : List (List Int)) (left : List Int) {x y : Int} (hne : y ≠ x) : tops V left x + tops V left y ≤ V.length := by
  unfold tops
  induction V with
  | nil => simp
  | cons p V ih =>
    rw [List.countP_cons, List.countP_cons, List.length_cons]
    by_cases h : (onlyIn left p).getD 0 0 = x
    · have h2 : ¬ (onlyIn left p).getD 0 0 = y := fun e => hne (by rw [← e, ← h])
      rw [decide_eq_true h, decide_eq_false h2]; simp only [if_true, Bool.false_eq_true, if_false]; omega
    · rw [decide_eq_false h]
      by_cases h2 : (onlyIn left p).getD 0 0 = y
      · rw [decide_eq_true h2]; simp only [if_true, Bool.false_eq_true, if_false]; omega
      · rw [decide_eq_false h2]; simp only [Bool.false_eq_true, if_false]; omega
theorem tops_ge {n : Nat} {V : List (List Int)} (hV : ∀ p ∈ V, p.Perm (sides n)) (hn : 1 ≤ n) {left : List Int} {x : Nat} (hx : x < n) (hxl : (x : Int) ∈ left) : fst1 V x ≤ tops V left x := by
  unfold fst1 tops
  refine List.countP_mono_left (fun p hp hpx => ?_)
  have hpx : pos p x = 0 := by simpa using hpx
  have h0 := (first_pos (hV p hp) hn hx).2 hpx
  have hl : p.length = n := by have := (hV p hp).length_eq; rwa [sides_len] at this
  have e : (onlyIn left p).getD 0 0 = x := by
    match p, hl, h0 with
    | [], hl, _ => simp at hl; omega
    | q :: p, _, h0 =>
      have hq : q = x := h0
      subst hq
      unfold onlyIn
      rw [List.filter_cons, decide_eq_true hxl]
      rfl
  exact decide_eq_true e
/-- Who is first on most ballots beats all others. -/
theorem most_beats {n : Nat} {V : List (List Int)} (hV : ∀ p ∈ V, p.Perm (sides n)) {x : Nat} (hx : x < n) (hm : V.length < 2 * fst1 V x) : Beats n V x := by
  refine ⟨hx, fun y hy hne => ?_⟩
  have h1 : fst1 V x ≤ cnt V x y := by
    unfold fst1 cnt
    refine List.countP_mono_left (fun p hp hpx => ?_)
    have hpx : pos p x = 0 := by simpa using hpx
    have hy0 := pos_range (hV p hp) hy
    have hnd := (hV p hp).nodup_iff.2 (sides_nodup n)
    have mx : (x : Int) ∈ p := (hV p hp).mem_iff.2 (mem_sides.2 ⟨by omega, by omega⟩)
    have my : (y : Int) ∈ p := (hV p hp).mem_iff.2 (mem_sides.2 ⟨by omega, by omega⟩)
    have : pos p y ≠ pos p x := fun e => hne (by have := pos_inj hnd my mx e; omega)
    simp; omega
  have h2 : cnt V x y + cnt V y x ≤ V.length := by
    clear h1 hm
    unfold cnt
    have hgen : ∀ U : List (List Int), (U.countP fun p => decide (pos p x < pos p y)) + (U.countP fun p => decide (pos p y < pos p x)) ≤ U.length := by
      intro U
      induction U with
      | nil => simp
      | cons p U ih =>
        rw [List.countP_cons, List.countP_cons, List.length_cons]
        by_cases h : pos p x < pos p y
        · have h2 : ¬ pos p y < pos p x := by omega
          rw [decide_eq_true h, decide_eq_false h2]; simp only [if_true, Bool.false_eq_true, if_false]; omega
        · rw [decide_eq_false h]
          by_cases h2 : pos p y < pos p x
          · rw [decide_eq_true h2]; simp only [if_true, Bool.false_eq_true, if_false]; omega
          · rw [decide_eq_false h2]; simp only [Bool.false_eq_true, if_false]; omega
    exact hgen V
  omega
theorem most_first {n : Nat} {V : List (List Int)} (hV : ∀ p ∈ V, p.Perm (sides n)) {x : Nat} (hx : x < n) (hm : V.length < 2 * fst1 V x) : winL 1 n V = [(x : Int)] := by
  show greatest (firstsL n V) = _
  have hl : (firstsL n V).length = n := by simp [firstsL, sides_len]
  refine greatest_one (by rw [hl]; exact hx) (fun y hy hne => ?_)
  rw [hl] at hy
  have a : (firstsL n V).getD y 0 = fst1 V y := by unfold firstsL; rw [map_sides_getD n _ hy]
  have b : (firstsL n V).getD x 0 = fst1 V x := by unfold firstsL; rw [map_sides_getD n _ hx]
  rw [a, b]
  have h2 : fst1 V x + fst1 V y ≤ V.length := by
    have hgen : ∀ U : List (List Int), (∀ p ∈ U, p.Perm (sides n)) → fst1 U x + fst1 U y ≤ U.length := by
      intro U
      induction U with
      | nil => intro _; simp [fst1]
      | cons p U ih =>
        intro hU
        have ih := ih (fun q hq => hU q (by simp [hq]))
        unfold fst1 at *
        rw [List.countP_cons, List.countP_cons, List.length_cons]
        have hp := hU p (by simp)
        have hnd := hp.nodup_iff.2 (sides_nodup n)
        have mx : (x : Int) ∈ p := hp.mem_iff.2 (mem_sides.2 ⟨by omega, by omega⟩)
        have my : (y : Int) ∈ p := hp.mem_iff.2 (mem_sides.2 ⟨by omega, by omega⟩)
        by_cases h : pos p x = 0
        · have h2 : ¬ pos p y = 0 := fun e => hne (by have := pos_inj hnd my mx (by rw [e, h]); omega)
          rw [decide_eq_true h, decide_eq_false h2]; simp only [if_true, Bool.false_eq_true, if_false]; omega
        · rw [decide_eq_false h]
          by_cases h2 : pos p y = 0
          · rw [decide_eq_true h2]; simp only [if_true, Bool.false_eq_true, if_false]; omega
          · rw [decide_eq_false h2]; simp only [Bool.false_eq_true, if_false]; omega
    exact hgen V hV
  omega
/-- Who is first on most ballots is never out while there is another. -/
theorem outTo_not {n : Nat} {V : List (List Int)} (hV : ∀ p ∈ V, p.Perm (sides n)) (hn : 1 ≤ n) {left : List Int} (h0 : ∀ z ∈ left, 0 ≤ z) {x : Nat} (hx : x < n) (hxl : (x : Int) ∈ left) (hm : V.length < 2 * fst1 V x) :
    ∀ k, k ≤ left.length → (0 < k → (outTo V left k).1 ∈ left ∧ (outTo V left k).2 = tops V left (outTo V left k).1) ∧ ((outTo V left k).1 = x → ∀ i, i < k → left.getD i 0 = x) := by
  have htx := tops_ge hV hn hx hxl
  intro k
  induction k with
  | zero => intro _; exact ⟨fun h => by omega, fun h i hi => by omega⟩
  | succ k ih =>
    intro hk
    obtain ⟨i1, i2⟩ := ih (by omega)
    rw [outTo]
    by_cases hc : (outTo V left k).1 < 0 ∨ (tops V left (left.getD k 0) : Int) ≤ (outTo V left k).2
    · rw [if_pos hc]
      refine ⟨fun _ => ⟨getD_mem left k (by omega), rfl⟩, fun he i hi => ?_⟩
      have he : left.getD k 0 = x := he
      by_cases hik : i = k
      · subst hik; exact he
      · rcases Nat.eq_zero_or_pos k with hk0 | hk0
        · omega
        · obtain ⟨j1, j2⟩ := i1 hk0
          have hpos := h0 _ j1
          rcases hc with hc | hc
          · omega
          · by_cases hox : (outTo V left k).1 = x
            · exact i2 hox i (by omega)
            · have := tops_two V left (x := x) (y := (outTo V left k).1) hox
              rw [j2, he] at hc
              omega
    · rw [if_neg hc]
      have hk0 : 0 < k := by
        rcases Nat.eq_zero_or_pos k with hk0 | hk0
        · subst hk0; exact absurd (Or.inl (show ((-1 : Int), (0 : Int)).1 < 0 by decide)) hc
        · exact hk0
      refine ⟨fun _ => i1 hk0, fun he i hi => ?_⟩
      by_cases hik : i = k
      · subst hik
        obtain ⟨j1, j2⟩ := i1 hk0
        by_cases hz : left.getD i 0 = x
        · exact hz
        · exfalso
          have := tops_two V left (x := x) (y := left.getD i 0) hz
          rw [he] at j2
          exact hc (.inr (by rw [j2]; omega))
      · exact i2 he i (by omega)
theorem most_left {n : Nat} {V : List (List Int)} (hV : ∀ p ∈ V, p.Perm (sides n)) (hn : 1 ≤ n) {x : Nat} (hx : x < n) (hm : V.length < 2 * fst1 V x) : ∀ j, j ≤ n - 1 → (x : Int) ∈ leftTo V n j := by
  intro j
  induction j with
  | zero => intro _; exact mem_sides.2 ⟨by omega, by omega⟩
  | succ j ih =>
    intro hj
    have hin := ih (by omega)
    have LO := left_ok V n hn j (by omega)
    have hne : outOf V (leftTo V n j) ≠ x := fun he => by
      have h := (outTo_not hV hn (fun z hz => (LO.rng z hz).1) hx hin hm (leftTo V n j).length (Nat.le_refl _)).2 he
      have hl := LO.len
      have a := h 0 (by omega)
      have b := h 1 (by omega)
      rw [getD_get (by omega)] at a b
      have := (List.getElem_inj LO.nodup).1 (a.trans b.symm)
      omega
    show (x : Int) ∈ (leftTo V n j).filter _
    exact List.mem_filter.2 ⟨hin, by simp; exact fun e => hne e.symm⟩
theorem most_rounds {n : Nat} {V : List (List Int)} (hV : ∀ p ∈ V, p.Perm (sides n)) (hn : 1 ≤ n) {x : Nat} (hx : x < n) (hm : V.length < 2 * fst1 V x) : winL 5 n V = [(x : Int)] := by
  show [lastOf n V] = _
  have hin := most_left hV hn hx hm (n - 1) (Nat.le_refl _)
  have LO := left_ok V n hn (n - 1) (Nat.le_refl _)
  have hl := LO.len
  have h1 : (leftTo V n (n - 1)).length = 1 := by omega
  unfold lastOf
  match leftTo V n (n - 1), h1, hin with
  | [z], _, hin =>
    simp at hin
    rw [hin]; rfl
end Fm

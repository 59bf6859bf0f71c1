/-
  The order that is nearest to all votes: lists of ints alone, no Go text.
-/
import Derived.Test.YthcaipnlgbnfkaaPureB
import Derived.Test.YthcaipnlgbnfkaaPureA
namespace Fm
set_option linter.unusedVariables false

/-- How far p is from all votes together. -/
def farT (V : List (List Int)) (p : List Int) : Nat := (V.map (inv p)).sum
theorem farT_snoc (V : List (List Int)) (q p : List Int) : farT (V ++ [q]) p = farT V p + inv p q := by unfold farT; simp
theorem farT_twice (V : List (List Int)) (p : List Int) : farT (V ++ V) p = 2 * farT V p := by unfold farT; simp; omega
theorem farT_take (V : List (List Int)) (p : List Int) {k : Nat} (hk : k < V.length) : farT (V.take (k + 1)) p = farT (V.take k) p + inv p (V.getD k []) := by
  rw [← farT_snoc, List.take_succ_eq_append_getElem hk, List.getD_eq_getElem?_getD, List.getElem?_eq_getElem hk]; rfl
theorem farT_le {n : Nat} (h6 : n ≤ 6) (V : List (List Int)) {p : List Int} (hp : p.length = n) : farT V p ≤ 36 * V.length := by
  induction V with
  | nil => simp [farT]
  | cons q V ih =>
    have := inv_le (q := q) hp h6
    unfold farT at ih ⊢
    simp
    omega

/-- Of the first k of L: the first one that is nearest, and how far it is. -/
def nearTo (V L : List (List Int)) : Nat → List Int × Int
  | 0 => ([], 0)
  | k + 1 => if k = 0 ∨ (farT V (L.getD k []) : Int) < (nearTo V L k).2 then (L.getD k [], (farT V (L.getD k []) : Int)) else nearTo V L k
theorem near_spec (V L : List (List Int)) : ∀ k, k < L.length → (nearTo V L (k + 1)).1 ∈ L ∧ (nearTo V L (k + 1)).2 = farT V (nearTo V L (k + 1)).1 ∧ ∀ j, j ≤ k → farT V (nearTo V L (k + 1)).1 ≤ farT V (L.getD j []) := by
  intro k
  induction k with
  | zero =>
    intro hk
    rw [nearTo, if_pos (.inl rfl)]
    exact ⟨memR hk, rfl, fun j hj => by have : j = 0 := by omega
                                        subst this; exact Nat.le_refl _⟩
  | succ k ih =>
    intro hk
    obtain ⟨h1, h2, h3⟩ := ih (by omega)
    rw [nearTo]
    by_cases hc : k + 1 = 0 ∨ (farT V (L.getD (k + 1) []) : Int) < (nearTo V L (k + 1)).2
    · rw [if_pos hc]
      refine ⟨memR hk, rfl, fun j hj => ?_⟩
      show farT V (L.getD (k + 1) []) ≤ _
      rcases hc with hc | hc
      · omega
      · by_cases e : j = k + 1
        · subst e; exact Nat.le_refl _
        · have := h3 j (by omega); omega
    · rw [if_neg hc]
      refine ⟨h1, h2, fun j hj => ?_⟩
      by_cases e : j = k + 1
      · subst e
        have : ¬ (farT V (L.getD (k + 1) []) : Int) < (nearTo V L (k + 1)).2 := fun h => hc (.inr h)
        omega
      · exact h3 j (by omega)
theorem near_bd (V L : List (List Int)) (b : Nat) (h : ∀ l ∈ L, farT V l ≤ b) (k : Nat) (hk : k ≤ L.length) : 0 ≤ (nearTo V L k).2 ∧ (nearTo V L k).2 ≤ b := by
  induction k with
  | zero => simp [nearTo]
  | succ k ih =>
    have := h _ (memR (show k < L.length by omega))
    rw [nearTo]
    split
    · exact ⟨Int.natCast_nonneg _, by show ((farT V (L.getD k []) : Nat) : Int) ≤ _; omega⟩
    · exact ih (by omega)
theorem near_twice (V L : List (List Int)) (k : Nat) : nearTo (V ++ V) L k = ((nearTo V L k).1, 2 * (nearTo V L k).2) := by
  induction k with
  | zero => rfl
  | succ k ih =>
    rw [nearTo, nearTo, ih, farT_twice]
    by_cases h : k = 0 ∨ (farT V (L.getD k []) : Int) < (nearTo V L k).2
    · have h' : k = 0 ∨ ((2 * farT V (L.getD k []) : Nat) : Int) < ((nearTo V L k).1, 2 * (nearTo V L k).2).2 := by
        rcases h with h | h
        · exact .inl h
        · exact .inr (by simp only; omega)
      rw [if_pos h, if_pos h']
      simp
    · rw [if_neg h, if_neg (by
        intro g
        rcases g with g | g
        · exact h (.inl g)
        · exact h (.inr (by simp only at g; omega)))]
def bestL (n : Nat) (V : List (List Int)) : List Int := (nearTo V (allO n) (allO n).length).1
def leastN (n : Nat) (V : List (List Int)) : Int := (nearTo V (allO n) (allO n).length).2
theorem allO_pos {n : Nat} (h1 : 1 ≤ n) (h6 : n ≤ 6) : 0 < (allO n).length := by rw [allO_len h1 h6]; exact fact_ge n
theorem best_all {n : Nat} (h1 : 1 ≤ n) (h6 : n ≤ 6) (V : List (List Int)) : (bestL n V).Perm (sides n) ∧ leastN n V = farT V (bestL n V) ∧ ∀ q, q.Perm (sides n) → farT V (bestL n V) ≤ farT V q := by
  have hp := allO_pos h1 h6
  obtain ⟨k, hk⟩ : ∃ k, (allO n).length = k + 1 := ⟨(allO n).length - 1, by omega⟩
  have h := near_spec V (allO n) k (by omega)
  rw [← hk] at h
  refine ⟨mem_allO.1 h.1, h.2.1, fun q hq => ?_⟩
  obtain ⟨j, hj, rfl⟩ := List.getElem_of_mem (mem_allO.2 hq)
  have h3 := h.2.2 j (by omega)
  rw [List.getD_eq_getElem?_getD, List.getElem?_eq_getElem hj] at h3
  exact h3
theorem least_bd {n : Nat} (h1 : 1 ≤ n) (h6 : n ≤ 6) {V : List (List Int)} (hV : V.length ≤ 30) : 0 ≤ leastN n V ∧ leastN n V ≤ 1080 := by
  obtain ⟨a, b, _⟩ := best_all h1 h6 V
  have hl : (bestL n V).length = n := by have := a.length_eq; rwa [sides_len] at this
  have := farT_le h6 V hl
  rw [b]
  omega

/-! How far, by the duels. -/
theorem far_cnt {n : Nat} {V : List (List Int)} (hV : ∀ q ∈ V, q.Perm (sides n)) {p : List Int} (hp : p.Perm (sides n)) : farT V p = tot (sides n) (fun x => tot (sides n) (fun y => if pos p x < pos p y then cnt V y x else 0)) := by
  have hn : p.Nodup := hp.nodup_iff.2 (sides_nodup n)
  induction V with
  | nil =>
    have e : tot (sides n) (fun x => tot (sides n) (fun y => if pos p x < pos p y then cnt [] y x else 0)) = 0 := by
      rw [tot_zero]
      intro x _
      rw [tot_zero]
      intro y _
      split
      · rfl
      · rfl
    rw [e]
    rfl
  | cons q V ih =>
    have h1 : farT (q :: V) p = inv p q + farT V p := by unfold farT; simp
    rw [h1, ih fun z hz => hV z (List.mem_cons_of_mem _ hz), inv_on hn hp, ← tot_add]
    refine tot_congr fun x _ => ?_
    rw [← tot_add]
    refine tot_congr fun y _ => ?_
    have e : cnt (q :: V) y x = cnt V y x + if pos q y < pos q x then 1 else 0 := by
      unfold cnt
      rw [List.countP_cons]
      simp
    rw [e]
    unfold dis
    by_cases h1 : pos p x < pos p y
    · rw [if_pos h1, if_pos h1]
      by_cases h2 : pos q y < pos q x
      · rw [if_pos ⟨h1, h2⟩, if_pos h2]; omega
      · rw [if_neg (fun h => h2 h.2), if_neg h2]; omega
    · rw [if_neg h1, if_neg h1, if_neg (fun h => h1 h.1)]
theorem tot_two {n x y c : Nat} (hx : x < n) (hy : y < n) : tot (sides n) (fun a => tot (sides n) (fun b => if a = (x : Int) ∧ b = (y : Int) then c else 0)) = c := by
  have e : tot (sides n) (fun a => tot (sides n) (fun b => if a = (x : Int) ∧ b = (y : Int) then c else 0)) = tot (sides n) (fun a => if a = (x : Int) then c else 0) := by
    refine tot_congr fun a _ => ?_
    by_cases h : a = (x : Int)
    · have e2 : tot (sides n) (fun b => if a = (x : Int) ∧ b = (y : Int) then c else 0) = tot (sides n) (fun b => if b = (y : Int) then c else 0) := tot_congr fun b _ => by simp [h]
      rw [e2, tot_one, if_pos hy, if_pos h]
    · rw [if_neg h, tot_zero.2]
      intro b _
      rw [if_neg (fun g => h g.1)]
  rw [e, tot_one, if_pos hx]
/-- Neighbours exchanged: what it costs. -/
theorem far_swp {n : Nat} {V : List (List Int)} (hV : ∀ q ∈ V, q.Perm (sides n)) {p : List Int} (hp : p.Perm (sides n)) {j x y : Nat} (hj : j + 1 < n) (hx : p.getD j 0 = x) (hy : p.getD (j + 1) 0 = y) : farT V (swp p j) + cnt V y x = farT V p + cnt V x y := by
  have hn : p.Nodup := hp.nodup_iff.2 (sides_nodup n)
  have hl : p.length = n := by have := hp.length_eq; rwa [sides_len] at this
  have hxn : x < n := by have := mem_sides.1 (hp.mem_iff.1 (hx ▸ getD_mem p j (by omega))); omega
  have hyn : y < n := by have := mem_sides.1 (hp.mem_iff.1 (hy ▸ getD_mem p (j + 1) (by omega))); omega
  have hpx : pos p x = j := by rw [← hx]; exact pos_idx hn (by omega)
  have hpy : pos p y = (j : Int) + 1 := by rw [← hy, pos_idx hn (by omega)]; omega
  have hq : (swp p j).Perm (sides n) := (swp_perm p j (by omega)).trans hp
  have hat : ∀ z : Int, z ∈ sides n → ((pos p z = j) ↔ z = x) ∧ ((pos p z = (j : Int) + 1) ↔ z = y) := fun z hz => by
    have hzm : z ∈ p := hp.mem_iff.2 hz
    have hxm : (x : Int) ∈ p := hp.mem_iff.2 (mem_sides.2 ⟨by omega, by omega⟩)
    have hym : (y : Int) ∈ p := hp.mem_iff.2 (mem_sides.2 ⟨by omega, by omega⟩)
    exact ⟨⟨fun h => pos_inj hn hzm hxm (by rw [h, hpx]), fun h => by rw [h, hpx]⟩, ⟨fun h => pos_inj hn hzm hym (by rw [h, hpy]), fun h => by rw [h, hpy]⟩⟩
  have key : tot (sides n) (fun a => tot (sides n) (fun b => (if pos (swp p j) a < pos (swp p j) b then cnt V b a else 0) + if a = (x : Int) ∧ b = (y : Int) then cnt V y x else 0))
      = tot (sides n) (fun a => tot (sides n) (fun b => (if pos p a < pos p b then cnt V b a else 0) + if a = (y : Int) ∧ b = (x : Int) then cnt V x y else 0)) := by
    refine tot_congr fun a ha => tot_congr fun b hb => ?_
    have ha' := mem_sides.1 ha
    have hb' := mem_sides.1 hb
    obtain ⟨a', rfl⟩ : ∃ a' : Nat, a = a' := ⟨a.toNat, by omega⟩
    obtain ⟨b', rfl⟩ : ∃ b' : Nat, b = b' := ⟨b.toNat, by omega⟩
    obtain ⟨a1, a2⟩ := hat _ ha
    obtain ⟨b1, b2⟩ := hat _ hb
    rw [pos_tau hp hj (by omega : a' < n), pos_tau hp hj (by omega : b' < n)]
    by_cases c1 : (a' : Int) = x
    · by_cases c2 : (b' : Int) = y
      · have e1 := a1.2 c1
        have e2 := b2.2 c2
        rw [c1, c2, hpx, hpy]
        have t1 : tau j (j : Int) = (j : Int) + 1 := by unfold tau; rw [if_pos rfl]
        have t2 : tau j ((j : Int) + 1) = j := by unfold tau; rw [if_neg (by omega), if_pos rfl]
        rw [t1, t2, if_neg (by omega), if_pos ⟨rfl, rfl⟩, if_pos (by omega)]
        have hxy : ¬ ((x : Int) = y ∧ (y : Int) = x) := fun h => by
          have : pos p x = pos p y := by rw [h.1]
          omega
        rw [if_neg hxy]
        omega
      · have e1 := a1.2 c1
        have n2 : ¬ pos p b' = (j : Int) + 1 := fun h => c2 (b2.1 h)
        rw [if_neg (fun h : (a' : Int) = x ∧ (b' : Int) = y => c2 h.2)]
        have hxy : ¬ ((a' : Int) = y ∧ (b' : Int) = x) := fun h => by
          have := a2.2 h.1
          omega
        rw [if_neg hxy, e1]
        have t1 : tau j (j : Int) = (j : Int) + 1 := by unfold tau; rw [if_pos rfl]
        rw [t1]
        by_cases c3 : pos p b' = (j : Int)
        · rw [c3, t1, if_neg (by omega), if_neg (by omega)]
        · have t3 : tau j (pos p b') = pos p b' := by unfold tau; rw [if_neg c3, if_neg n2]
          rw [t3]
          by_cases c4 : (j : Int) < pos p b'
          · rw [if_pos c4, if_pos (by omega)]
          · rw [if_neg c4, if_neg (by omega)]
    · rw [if_neg (fun h : (a' : Int) = x ∧ (b' : Int) = y => c1 h.1)]
      have n1 : ¬ pos p a' = (j : Int) := fun h => c1 (a1.1 h)
      by_cases c2 : (a' : Int) = y ∧ (b' : Int) = x
      · have e1 := a2.2 c2.1
        have e2 := b1.2 c2.2
        rw [if_pos c2, e1, e2]
        have t1 : tau j (j : Int) = (j : Int) + 1 := by unfold tau; rw [if_pos rfl]
        have t2 : tau j ((j : Int) + 1) = j := by unfold tau; rw [if_neg (by omega), if_pos rfl]
        rw [t1, t2, if_pos (by omega), if_neg (by omega), c2.1, c2.2]
        omega
      · rw [if_neg c2]
        have e : (tau j (pos p a') < tau j (pos p b')) ↔ (pos p a' < pos p b') := by
          unfold tau
          rw [if_neg n1]
          by_cases d1 : pos p a' = (j : Int) + 1
          · rw [if_pos d1, d1]
            have n3 : ¬ pos p b' = (j : Int) := fun h => c2 ⟨a2.1 d1, b1.1 h⟩
            rw [if_neg n3]
            by_cases d2 : pos p b' = (j : Int) + 1
            · rw [if_pos d2, d2]; omega
            · rw [if_neg d2]; omega
          · rw [if_neg d1]
            by_cases d2 : pos p b' = (j : Int)
            · rw [if_pos d2, d2]; omega
            · rw [if_neg d2]
              by_cases d3 : pos p b' = (j : Int) + 1
              · rw [if_pos d3, d3]; omega
              · rw [if_neg d3]
        by_cases d : pos p a' < pos p b'
        · rw [if_pos d, if_pos (e.2 d)]
        · rw [if_neg d, if_neg (fun h => d (e.1 h))]
  have e1 : ∀ φ ψ : Int → Int → Nat, tot (sides n) (fun a => tot (sides n) (fun b => φ a b + ψ a b)) = tot (sides n) (fun a => tot (sides n) (fun b => φ a b)) + tot (sides n) (fun a => tot (sides n) (fun b => ψ a b)) := fun φ ψ => by
    rw [← tot_add]
    exact tot_congr fun a _ => tot_add _ _ _
  rw [e1, e1, tot_two hxn hyn, tot_two hyn hxn, ← far_cnt hV hq, ← far_cnt hV hp] at key
  exact key
/-- Of the nearest order, no neighbour beats the one before. -/
theorem best_step {n : Nat} (h1 : 1 ≤ n) (h6 : n ≤ 6) {V : List (List Int)} (hV : ∀ q ∈ V, q.Perm (sides n)) {j x y : Nat} (hj : j + 1 < n) (hx : (bestL n V).getD j 0 = x) (hy : (bestL n V).getD (j + 1) 0 = y) : cnt V y x ≤ cnt V x y := by
  obtain ⟨hp, _, hm⟩ := best_all h1 h6 V
  have hl : (bestL n V).length = n := by have := hp.length_eq; rwa [sides_len] at this
  have h := far_swp hV hp hj hx hy
  have := hm _ ((swp_perm (bestL n V) j (by omega)).trans hp)
  omega
theorem prefix_count {P : Int → Bool} : ∀ {l : List Int}, (∀ i, i + 1 < l.length → P (l.getD (i + 1) 0) = true → P (l.getD i 0) = true) → ∀ i, i < l.length → (P (l.getD i 0) = true ↔ i < l.countP P) := by
  intro l
  induction l with
  | nil => intro _ i hi; simp at hi
  | cons a l ih =>
    intro h
    have htail : ∀ i, i + 1 < l.length → P (l.getD (i + 1) 0) = true → P (l.getD i 0) = true := fun i hi => by
      have := h (i + 1) (by simp; omega)
      simpa using this
    by_cases ha : P a = true
    · intro i hi
      rw [List.countP_cons, if_pos ha]
      cases i with
      | zero => simp [ha]
      | succ i =>
        have := ih htail i (by simpa using hi)
        rw [List.getD_cons_succ]
        exact this.trans ⟨fun h => by omega, fun h => by omega⟩
    · have hall : ∀ i, i < l.length → ¬ P (l.getD i 0) = true := by
        intro i
        induction i with
        | zero =>
          intro hi hp
          exact ha (by simpa using h 0 (by simpa using hi) (by simpa using hp))
        | succ i ihh =>
          intro hi hp
          exact ihh (by omega) (htail i hi hp)
      have h0 : l.countP P = 0 := by
        rw [List.countP_eq_zero]
        intro x hx
        obtain ⟨i, hi, rfl⟩ := List.getElem_of_mem hx
        have := hall i hi
        rwa [getD_get hi] at this
      intro i hi
      rw [List.countP_cons, if_neg ha, h0]
      cases i with
      | zero => simp [ha]
      | succ i =>
        have := hall i (by simpa using hi)
        rw [List.getD_cons_succ]
        exact ⟨fun h => absurd h this, fun h => by omega⟩
/-- The top sides stand ahead of all others. -/
theorem best_ahead {n : Nat} (h1 : 1 ≤ n) (h6 : n ≤ 6) {V : List (List Int)} (hV : ∀ q ∈ V, q.Perm (sides n)) {i : Nat} (hi : i < n) : (bestL n V).getD i 0 ∈ topL n (duelsM n V) ↔ i < (topL n (duelsM n V)).length := by
  obtain ⟨hp, _, _⟩ := best_all h1 h6 V
  have hl : (bestL n V).length = n := by have := hp.length_eq; rwa [sides_len] at this
  have hr : ∀ k, k < n → ∃ z : Nat, z < n ∧ (bestL n V).getD k 0 = z := fun k hk => by
    have := mem_sides.1 (hp.mem_iff.1 (getD_mem (bestL n V) k (by omega)))
    exact ⟨((bestL n V).getD k 0).toNat, by omega, by omega⟩
  have hpre := prefix_count (P := fun z => decide (z ∈ topL n (duelsM n V))) (l := bestL n V) (fun k hk hy => by
    simp only [decide_eq_true_eq] at hy ⊢
    obtain ⟨x, hxn, hx⟩ := hr k (by omega)
    obtain ⟨y, hyn, hyy⟩ := hr (k + 1) (by omega)
    rw [hyy] at hy
    rw [hx]
    by_cases hxt : (x : Int) ∈ topL n (duelsM n V)
    · exact hxt
    · have d := top_dom h1 (duelsM n V) hyn hxn hy hxt
      rw [ent_duels n V hxn hyn, ent_duels n V hyn hxn] at d
      have := best_step h1 h6 hV (by omega) hx hyy
      omega) i (by omega)
  have hc : (bestL n V).countP (fun z => decide (z ∈ topL n (duelsM n V))) = (topL n (duelsM n V)).length := by
    rw [hp.countP_eq]
    have e : (sides n).countP (fun z => decide (z ∈ topL n (duelsM n V))) = (List.range n).countP (fun x => inTop n (duelsM n V) x) := by
      unfold sides
      rw [List.countP_map]
      refine List.countP_congr fun x hx => ?_
      have hx := List.mem_range.1 hx
      simp only [Function.comp_apply, decide_eq_true_eq]
      rw [mem_topL]
      exact ⟨fun h => h.2, fun h => ⟨hx, h⟩⟩
    rw [e]
    unfold topL
    rw [List.length_map, List.countP_eq_length_filter]
  rw [hc] at hpre
  simpa using hpre

/-! The votes the other way round. -/
theorem far_turned {n : Nat} {V : List (List Int)} (hV : ∀ q ∈ V, q.Perm (sides n)) {p : List Int} (hp : p.Perm (sides n)) : farT (V.map List.reverse) p.reverse = farT V p := by
  have hr : p.reverse.Perm (sides n) := (List.reverse_perm p).trans hp
  rw [far_cnt (turned_mem hV) hr, far_cnt hV hp, tot_swap]
  refine tot_congr fun x hx => tot_congr fun y hy => ?_
  have hx' := mem_sides.1 hx
  have hy' := mem_sides.1 hy
  obtain ⟨a, rfl⟩ : ∃ a : Nat, x = a := ⟨x.toNat, by omega⟩
  obtain ⟨b, rfl⟩ : ∃ b : Nat, y = b := ⟨y.toNat, by omega⟩
  have ha : a < n := by omega
  have hb : b < n := by omega
  rw [pos_rev2 hp ha, pos_rev2 hp hb, cnt_turned hV hb ha]
  by_cases h : pos p a < pos p b
  · rw [if_pos h, if_pos (by omega)]
  · rw [if_neg h, if_neg (by omega)]
theorem least_le {n : Nat} (h1 : 1 ≤ n) (h6 : n ≤ 6) {V V' : List (List Int)} (f : List Int → List Int) (hf : ∀ p, p.Perm (sides n) → (f p).Perm (sides n) ∧ farT V' (f p) = farT V p) : leastN n V' ≤ leastN n V := by
  obtain ⟨a, b, _⟩ := best_all h1 h6 V
  obtain ⟨_, b', c'⟩ := best_all h1 h6 V'
  obtain ⟨h2, h3⟩ := hf _ a
  have := c' _ h2
  rw [b, b']
  omega
theorem least_turned {n : Nat} (h1 : 1 ≤ n) (h6 : n ≤ 6) {V : List (List Int)} (hV : ∀ q ∈ V, q.Perm (sides n)) : leastN n (V.map List.reverse) = leastN n V := by
  apply Int.le_antisymm
  · exact least_le h1 h6 List.reverse fun p hp => ⟨(List.reverse_perm p).trans hp, far_turned hV hp⟩
  · refine least_le h1 h6 List.reverse fun p hp => ⟨(List.reverse_perm p).trans hp, ?_⟩
    have hr : p.reverse.Perm (sides n) := (List.reverse_perm p).trans hp
    have h := far_turned hV hr
    rw [List.reverse_reverse] at h
    exact h.symm
end Fm

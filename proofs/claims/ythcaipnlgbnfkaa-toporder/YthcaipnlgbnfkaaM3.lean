/-
  Several of our texts, one behind the other, each under its own words; no condition but those that each states.
-/
import Derived.Test.YthcaipnlgbnfkaaPureB
import Derived.Test.YthcaipnlgbnfkaaPureA
import Derived.Test.YthcaipnlgbnfkaaProg
import Derived.WalkKit
import Derived.Deep.AppendLies
import Derived.Deep.DeepMust
import Derived.OwnWalk
import Derived.KernelRfl
import Derived.Laws.NewBlocks
/-
  The order that is nearest to all votes: lists of ints alone, no Go text.
-/
namespace Fm
set_option linter.unusedVariables false

/-- How far p is from all votes together. -/
def farT (V : List (List Int)) (p : List Int) : Nat := (V.map (inv p)).sum
theorem farT_snoc (V : List (List Int)) (q p : List Int) : farT (V ++ [q]) p = farT V p + inv p q := by unfold farT; simp
theorem farT_twice (V : List (List Int)) (p : List Int) : farT (V ++ V) p = 2 * farT V p := by unfold farT; simp; omega
theorem farT_take (V : List (List Int)) (p : List Int) {k : Nat} (hk : k < V.length) : farT (V.take (k + 1)) p = farT (V.take k) p + inv p (V.getD k []) := by
  rw [← farT_snoc, List.take_succ_eq_append_getElem hk, List.getD_eq_getElem?_getD, List.getElem?_eq_getElem hk]; rfl
theorem farT_le {n : Nat} (h6 : n ≤ 6) (V : List (List Int)) {p : List Int} (hp : p.length = n) : farT V p ≤ 36 * V.length := by
  induction V with
  | nil => simp [farT]
  | cons q V ih =>
    have := inv_le (q := q) hp h6
    unfold farT at ih ⊢
    simp
    omega

/-- Of the first k of L: the first one that is nearest, and how far it is. -/
def nearTo (V L : List (List Int)) : Nat → List Int × Int
  | 0 => ([], 0)
  | k + 1 => if k = 0 ∨ (farT V (L.getD k []) : Int) < (nearTo V L k).2 then (L.getD k [], (farT V (L.getD k []) : Int)) else nearTo V L k
theorem near_spec (V L : List (List Int)) : ∀ k, k < L.length → (nearTo V L (k + 1)).1 ∈ L ∧ (nearTo V L (k + 1)).2 = farT V (nearTo V L (k + 1)).1 ∧ ∀ j, j ≤ k → farT V (nearTo V L (k + 1)).1 ≤ farT V (L.getD j []) := by
  intro k
  induction k with
  | zero =>
    intro hk
    rw [nearTo, if_pos (.inl rfl)]
    exact ⟨memR hk, rfl, fun j hj => by have : j = 0 := by omega
                                        subst this; exact Nat.le_refl _⟩
  | succ k ih =>
    intro hk
    obtain ⟨h1, h2, h3⟩ := ih (by omega)
    rw [nearTo]
    by_cases hc : k + 1 = 0 ∨ (farT V (L.getD (k + 1) []) : Int) < (nearTo V L (k + 1)).2
    · rw [if_pos hc]
      refine ⟨memR hk, rfl, fun j hj => ?_⟩
      show farT V (L.getD (k + 1) []) ≤ _
      rcases hc with hc | hc
      · omega
      · by_cases e : j = k + 1
        · subst e; exact Nat.le_refl _
        · have := h3 j (by omega); omega
    · rw [if_neg hc]
      refine ⟨h1, h2, fun j hj => ?_⟩
      by_cases e : j = k + 1
      · subst e
        have : ¬ (farT V (L.getD (k + 1) []) : Int) < (nearTo V L (k + 1)).2 := fun h => hc (.inr h)
        omega
      · exact h3 j (by omega)
theorem near_bd (V L : List (List Int)) (b : Nat) (h : ∀ l ∈ L, farT V l ≤ b) (k : Nat) (hk : k ≤ L.length) : 0 ≤ (nearTo V L k).2 ∧ (nearTo V L k).2 ≤ b := by
  induction k with
  | zero => simp [nearTo]
  | succ k ih =>
    have := h _ (memR (show k < L.length by omega))
    rw [nearTo]
    split
    · exact ⟨Int.natCast_nonneg _, by show ((farT V (L.getD k []) : Nat) : Int) ≤ _; omega⟩
    · exact ih (by omega)
theorem near_twice (V L : List (List Int)) (k : Nat) : nearTo (V ++ V) L k = ((nearTo V L k).1, 2 * (nearTo V L k).2) := by
  induction k with
  | zero => rfl
  | succ k ih =>
    rw [nearTo, nearTo, ih, farT_twice]
    by_cases h : k = 0 ∨ (farT V (L.getD k []) : Int) < (nearTo V L k).2
    · have h' : k = 0 ∨ ((2 * farT V (L.getD k []) : Nat) : Int) < ((nearTo V L k).1, 2 * (nearTo V L k).2).2 := by
        rcases h with h | h
        · exact .inl h
        · exact .inr (by simp only; omega)
      rw [if_pos h, if_pos h']
      simp
    · rw [if_neg h, if_neg (by
        intro g
        rcases g with g | g
        · exact h (.inl g)
        · exact h (.inr (by simp only at g; omega)))]
def bestL (n : Nat) (V : List (List Int)) : List Int := (nearTo V (allO n) (allO n).length).1
def leastN (n : Nat) (V : List (List Int)) : Int := (nearTo V (allO n) (allO n).length).2
theorem allO_pos {n : Nat} (h1 : 1 ≤ n) (h6 : n ≤ 6) : 0 < (allO n).length := by rw [allO_len h1 h6]; exact fact_ge n
theorem best_all {n : Nat} (h1 : 1 ≤ n) (h6 : n ≤ 6) (V : List (List Int)) : (bestL n V).Perm (sides n) ∧ leastN n V = farT V (bestL n V) ∧ ∀ q, q.Perm (sides n) → farT V (bestL n V) ≤ farT V q := by
  have hp := allO_pos h1 h6
  obtain ⟨k, hk⟩ : ∃ k, (allO n).length = k + 1 := ⟨(allO n).length - 1, by omega⟩
  have h := near_spec V (allO n) k (by omega)
  rw [← hk] at h
  refine ⟨mem_allO.1 h.1, h.2.1, fun q hq => ?_⟩
  obtain ⟨j, hj, rfl⟩ := List.getElem_of_mem (mem_allO.2 hq)
  have h3 := h.2.2 j (by omega)
  rw [List.getD_eq_getElem?_getD, List.getElem?_eq_getElem hj] at h3
  exact h3
theorem least_bd {n : Nat} (h1 : 1 ≤ n) (h6 : n ≤ 6) {V : List (List Int)} (hV : V.length ≤ 30) : 0 ≤ leastN n V ∧ leastN n V ≤ 1080 := by
  obtain ⟨a, b, _⟩ := best_all h1 h6 V
  have hl : (bestL n V).length = n := by have := a.length_eq; rwa [sides_len] at this
  have := farT_le h6 V hl
  rw [b]
  omega

/-! How far, by the duels. -/
theorem far_cnt {n : Nat} {V : List (List Int)} (hV : ∀ q ∈ V, q.Perm (sides n)) {p : List Int} (hp : p.Perm (sides n)) : farT V p = tot (sides n) (fun x => tot (sides n) (fun y => if pos p x < pos p y then cnt V y x else 0)) := by
  have hn : p.Nodup := hp.nodup_iff.2 (sides_nodup n)
  induction V with
  | nil =>
    have e : tot (sides n) (fun x => tot (sides n) (fun y => if pos p x < pos p y then cnt [] y x else 0)) = 0 := by
      rw [tot_zero]
      intro x _
      rw [tot_zero]
      intro y _
      split
      · rfl
      · rfl
    rw [e]
    rfl
  | cons q V ih =>
    have h1 : farT (q :: V) p = inv p q + farT V p := by unfold farT; simp
    rw [h1, ih fun z hz => hV z (List.mem_cons_of_mem _ hz), inv_on hn hp, ← tot_add]
    refine tot_congr fun x _ => ?_
    rw [← tot_add]
    refine tot_congr fun y _ => ?_
    have e : cnt (q :: V) y x = cnt V y x + if pos q y < pos q x then 1 else 0 := by
      unfold cnt
      rw [List.countP_cons]
      simp
    rw [e]
    unfold dis
    by_cases h1 : pos p x < pos p y
    · rw [if_pos h1, if_pos h1]
      by_cases h2 : pos q y < pos q x
      · rw [if_pos ⟨h1, h2⟩, if_pos h2]; omega
      · rw [if_neg (fun h => h2 h.2), if_neg h2]; omega
    · rw [if_neg h1, if_neg h1, if_neg (fun h => h1 h.1)]
theorem tot_two {n x y c : Nat} (hx : x < n) (hy : y < n) : tot (sides n) (fun a => tot (sides n) (fun b => if a = (x : Int) ∧ b = (y : Int) then c else 0)) = c := by
  have e : tot (sides n) (fun a => tot (sides n) (fun b => if a = (x : Int) ∧ b = (y : Int) then c else 0)) = tot (sides n) (fun a => if a = (x : Int) then c else 0) := by
    refine tot_congr fun a _ => ?_
    by_cases h : a = (x : Int)
    · have e2 : tot (sides n) (fun b => if a = (x : Int) ∧ b = (y : Int) then c else 0) = tot (sides n) (fun b => if b = (y : Int) then c else 0) := tot_congr fun b _ => by simp [h]
      rw [e2, tot_one, if_pos hy, if_pos h]
    · rw [if_neg h, tot_zero.2]
      intro b _
      rw [if_neg (fun g => h g.1)]
  rw [e, tot_one, if_pos hx]
/-- Neighbours exchanged: what it costs. -/
theorem far_swp {n : Nat} {V : List (List Int)} (hV : ∀ q ∈ V, q.Perm (sides n)) {p : List Int} (hp : p.Perm (sides n)) {j x y : Nat} (hj : j + 1 < n) (hx : p.getD j 0 = x) (hy : p.getD (j + 1) 0 = y) : farT V (swp p j) + cnt V y x = farT V p + cnt V x y := by
  have hn : p.Nodup := hp.nodup_iff.2 (sides_nodup n)
  have hl : p.length = n := by have := hp.length_eq; rwa [sides_len] at this
  have hxn : x < n := by have := mem_sides.1 (hp.mem_iff.1 (hx ▸ getD_mem p j (by omega))); omega
  have hyn : y < n := by have := mem_sides.1 (hp.mem_iff.1 (hy ▸ getD_mem p (j + 1) (by omega))); omega
  have hpx : pos p x = j := by rw [← hx]; exact pos_idx hn (by omega)
  have hpy : pos p y = (j : Int) + 1 := by rw [← hy, pos_idx hn (by omega)]; omega
  have hq : (swp p j).Perm (sides n) := (swp_perm p j (by omega)).trans hp
  have hat : ∀ z : Int, z ∈ sides n → ((pos p z = j) ↔ z = x) ∧ ((pos p z = (j : Int) + 1) ↔ z = y) := fun z hz => by
    have hzm : z ∈ p := hp.mem_iff.2 hz
    have hxm : (x : Int) ∈ p := hp.mem_iff.2 (mem_sides.2 ⟨by omega, by omega⟩)
    have hym : (y : Int) ∈ p := hp.mem_iff.2 (mem_sides.2 ⟨by omega, by omega⟩)
    exact ⟨⟨fun h => pos_inj hn hzm hxm (by rw [h, hpx]), fun h => by rw [h, hpx]⟩, ⟨fun h => pos_inj hn hzm hym (by rw [h, hpy]), fun h => by rw [h, hpy]⟩⟩
  have key : tot (sides n) (fun a => tot (sides n) (fun b => (if pos (swp p j) a < pos (swp p j) b then cnt V b a else 0) + if a = (x : Int) ∧ b = (y : Int) then cnt V y x else 0))
      = tot (sides n) (fun a => tot (sides n) (fun b => (if pos p a < pos p b then cnt V b a else 0) + if a = (y : Int) ∧ b = (x : Int) then cnt V x y else 0)) := by
    refine tot_congr fun a ha => tot_congr fun b hb => ?_
    have ha' := mem_sides.1 ha
    have hb' := mem_sides.1 hb
    obtain ⟨a', rfl⟩ : ∃ a' : Nat, a = a' := ⟨a.toNat, by omega⟩
    obtain ⟨b', rfl⟩ : ∃ b' : Nat, b = b' := ⟨b.toNat, by omega⟩
    obtain ⟨a1, a2⟩ := hat _ ha
    obtain ⟨b1, b2⟩ := hat _ hb
    rw [pos_tau hp hj (by omega : a' < n), pos_tau hp hj (by omega : b' < n)]
    by_cases c1 : (a' : Int) = x
    · by_cases c2 : (b' : Int) = y
      · have e1 := a1.2 c1
        have e2 := b2.2 c2
        rw [c1, c2, hpx, hpy]
        have t1 : tau j (j : Int) = (j : Int) + 1 := by unfold tau; rw [if_pos rfl]
        have t2 : tau j ((j : Int) + 1) = j := by unfold tau; rw [if_neg (by omega), if_pos rfl]
        rw [t1, t2, if_neg (by omega), if_pos ⟨rfl, rfl⟩, if_pos (by omega)]
        have hxy : ¬ ((x : Int) = y ∧ (y : Int) = x) := fun h => by
          have : pos p x = pos p y := by rw [h.1]
          omega
        rw [if_neg hxy]
        omega
      · have e1 := a1.2 c1
        have n2 : ¬ pos p b' = (j : Int) + 1 := fun h => c2 (b2.1 h)
        rw [if_neg (fun h : (a' : Int) = x ∧ (b' : Int) = y => c2 h.2)]
        have hxy : ¬ ((a' : Int) = y ∧ (b' : Int) = x) := fun h => by
          have := a2.2 h.1
          omega
        rw [if_neg hxy, e1]
        have t1 : tau j (j : Int) = (j : Int) + 1 := by unfold tau; rw [if_pos rfl]
        rw [t1]
        by_cases c3 : pos p b' = (j : Int)
        · rw [c3, t1, if_neg (by omega), if_neg (by omega)]
        · have t3 : tau j (pos p b') = pos p b' := by unfold tau; rw [if_neg c3, if_neg n2]
          rw [t3]
          by_cases c4 : (j : Int) < pos p b'
          · rw [if_pos c4, if_pos (by omega)]
          · rw [if_neg c4, if_neg (by omega)]
    · rw [if_neg (fun h : (a' : Int) = x ∧ (b' : Int) = y => c1 h.1)]
      have n1 : ¬ pos p a' = (j : Int) := fun h => c1 (a1.1 h)
      by_cases c2 : (a' : Int) = y ∧ (b' : Int) = x
      · have e1 := a2.2 c2.1
        have e2 := b1.2 c2.2
        rw [if_pos c2, e1, e2]
        have t1 : tau j (j : Int) = (j : Int) + 1 := by unfold tau; rw [if_pos rfl]
        have t2 : tau j ((j : Int) + 1) = j := by unfold tau; rw [if_neg (by omega), if_pos rfl]
        rw [t1, t2, if_pos (by omega), if_neg (by omega), c2.1, c2.2]
        omega
      · rw [if_neg c2]
        have e : (tau j (pos p a') < tau j (pos p b')) ↔ (pos p a' < pos p b') := by
          unfold tau
          rw [if_neg n1]
          by_cases d1 : pos p a' = (j : Int) + 1
          · rw [if_pos d1, d1]
            have n3 : ¬ pos p b' = (j : Int) := fun h => c2 ⟨a2.1 d1, b1.1 h⟩
            rw [if_neg n3]
            by_cases d2 : pos p b' = (j : Int) + 1
            · rw [if_pos d2, d2]; omega
            · rw [if_neg d2]; omega
          · rw [if_neg d1]
            by_cases d2 : pos p b' = (j : Int)
            · rw [if_pos d2, d2]; omega
            · rw [if_neg d2]
              by_cases d3 : pos p b' = (j : Int) + 1
              · rw [if_pos d3, d3]; omega
              · rw [if_neg d3]
        by_cases d : pos p a' < pos p b'
        · rw [if_pos d, if_pos (e.2 d)]
        · rw [if_neg d, if_neg (fun h => d (e.1 h))]
  have e1 : ∀ φ ψ : Int → Int → Nat, tot (sides n) (fun a => tot (sides n) (fun b => φ a b + ψ a b)) = tot (sides n) (fun a => tot (sides n) (fun b => φ a b)) + tot (sides n) (fun a => tot (sides n) (fun b => ψ a b)) := fun φ ψ => by
    rw [← tot_add]
    exact tot_congr fun a _ => tot_add _ _ _
  rw [e1, e1, tot_two hxn hyn, tot_two hyn hxn, ← far_cnt hV hq, ← far_cnt hV hp] at key
  exact key
/-- Of the nearest order, no neighbour beats the one before. -/
theorem best_step {n : Nat} (h1 : 1 ≤ n) (h6 : n ≤ 6) {V : List (List Int)} (hV : ∀ q ∈ V, q.Perm (sides n)) {j x y : Nat} (hj : j + 1 < n) (hx : (bestL n V).getD j 0 = x) (hy : (bestL n V).getD (j + 1) 0 = y) : cnt V y x ≤ cnt V x y := by
  obtain ⟨hp, _, hm⟩ := best_all h1 h6 V
  have hl : (bestL n V).length = n := by have := hp.length_eq; rwa [sides_len] at this
  have h := far_swp hV hp hj hx hy
  have := hm _ ((swp_perm (bestL n V) j (by omega)).trans hp)
  omega
theorem prefix_count {P : Int → Bool} : ∀ {l : List Int}, (∀ i, i + 1 < l.length → P (l.getD (i + 1) 0) = true → P (l.getD i 0) = true) → ∀ i, i < l.length → (P (l.getD i 0) = true ↔ i < l.countP P) := by
  intro l
  induction l with
  | nil => intro _ i hi; simp at hi
  | cons a l ih =>
    intro h
    have htail : ∀ i, i + 1 < l.length → P (l.getD (i + 1) 0) = true → P (l.getD i 0) = true := fun i hi => by
      have := h (i + 1) (by simp; omega)
      simpa using this
    by_cases ha : P a = true
    · intro i hi
      rw [List.countP_cons, if_pos ha]
      cases i with
      | zero => simp [ha]
      | succ i =>
        have := ih htail i (by simpa using hi)
        rw [List.getD_cons_succ]
        exact this.trans ⟨fun h => by omega, fun h => by omega⟩
    · have hall : ∀ i, i < l.length → ¬ P (l.getD i 0) = true := by
        intro i
        induction i with
        | zero =>
          intro hi hp
          exact ha (by simpa using h 0 (by simpa using hi) (by simpa using hp))
        | succ i ihh =>
          intro hi hp
          exact ihh (by omega) (htail i hi hp)
      have h0 : l.countP P = 0 := by
        rw [List.countP_eq_zero]
        intro x hx
        obtain ⟨i, hi, rfl⟩ := List.getElem_of_mem hx
        have := hall i hi
        rwa [getD_get hi] at this
      intro i hi
      rw [List.countP_cons, if_neg ha, h0]
      cases i with
      | zero => simp [ha]
      | succ i =>
        have := hall i (by simpa using hi)
        rw [List.getD_cons_succ]
        exact ⟨fun h => absurd h this, fun h => by omega⟩
/-- The top sides stand ahead of all others. -/
theorem best_ahead {n : Nat} (h1 : 1 ≤ n) (h6 : n ≤ 6) {V : List (List Int)} (hV : ∀ q ∈ V, q.Perm (sides n)) {i : Nat} (hi : i < n) : (bestL n V).getD i 0 ∈ topL n (duelsM n V) ↔ i < (topL n (duelsM n V)).length := by
  obtain ⟨hp, _, _⟩ := best_all h1 h6 V
  have hl : (bestL n V).length = n := by have := hp.length_eq; rwa [sides_len] at this
  have hr : ∀ k, k < n → ∃ z : Nat, z < n ∧ (bestL n V).getD k 0 = z := fun k hk => by
    have := mem_sides.1 (hp.mem_iff.1 (getD_mem (bestL n V) k (by omega)))
    exact ⟨((bestL n V).getD k 0).toNat, by omega, by omega⟩
  have hpre := prefix_count (P := fun z => decide (z ∈ topL n (duelsM n V))) (l := bestL n V) (fun k hk hy => by
    simp only [decide_eq_true_eq] at hy ⊢
    obtain ⟨x, hxn, hx⟩ := hr k (by omega)
    obtain ⟨y, hyn, hyy⟩ := hr (k + 1) (by omega)
    rw [hyy] at hy
    rw [hx]
    by_cases hxt : (x : Int) ∈ topL n (duelsM n V)
    · exact hxt
    · have d := top_dom h1 (duelsM n V) hyn hxn hy hxt
      rw [ent_duels n V hxn hyn, ent_duels n V hyn hxn] at d
      have := best_step h1 h6 hV (by omega) hx hyy
      omega) i (by omega)
  have hc : (bestL n V).countP (fun z => decide (z ∈ topL n (duelsM n V))) = (topL n (duelsM n V)).length := by
    rw [hp.countP_eq]
    have e : (sides n).countP (fun z => decide (z ∈ topL n (duelsM n V))) = (List.range n).countP (fun x => inTop n (duelsM n V) x) := by
      unfold sides
      rw [List.countP_map]
      refine List.countP_congr fun x hx => ?_
      have hx := List.mem_range.1 hx
      simp only [Function.comp_apply, decide_eq_true_eq]
      rw [mem_topL]
      exact ⟨fun h => h.2, fun h => ⟨hx, h⟩⟩
    rw [e]
    unfold topL
    rw [List.length_map, List.countP_eq_length_filter]
  rw [hc] at hpre
  simpa using hpre

/-! The votes the other way round. -/
theorem far_turned {n : Nat} {V : List (List Int)} (hV : ∀ q ∈ V, q.Perm (sides n)) {p : List Int} (hp : p.Perm (sides n)) : farT (V.map List.reverse) p.reverse = farT V p := by
  have hr : p.reverse.Perm (sides n) := (List.reverse_perm p).trans hp
  rw [far_cnt (turned_mem hV) hr, far_cnt hV hp, tot_swap]
  refine tot_congr fun x hx => tot_congr fun y hy => ?_
  have hx' := mem_sides.1 hx
  have hy' := mem_sides.1 hy
  obtain ⟨a, rfl⟩ : ∃ a : Nat, x = a := ⟨x.toNat, by omega⟩
  obtain ⟨b, rfl⟩ : ∃ b : Nat, y = b := ⟨y.toNat, by omega⟩
  have ha : a < n := by omega
  have hb : b < n := by omega
  rw [pos_rev2 hp ha, pos_rev2 hp hb, cnt_turned hV hb ha]
  by_cases h : pos p a < pos p b
  · rw [if_pos h, if_pos (by omega)]
  · rw [if_neg h, if_neg (by omega)]
theorem least_le {n : Nat} (h1 : 1 ≤ n) (h6 : n ≤ 6) {V V' : List (List Int)} (f : List Int → List Int) (hf : ∀ p, p.Perm (sides n) → (f p).Perm (sides n) ∧ farT V' (f p) = farT V p) : leastN n V' ≤ leastN n V := by
  obtain ⟨a, b, _⟩ := best_all h1 h6 V
  obtain ⟨_, b', c'⟩ := best_all h1 h6 V'
  obtain ⟨h2, h3⟩ := hf _ a
  have := c' _ h2
  rw [b, b']
  omega
theorem least_turned {n : Nat} (h1 : 1 ≤ n) (h6 : n ≤ 6) {V : List (List Int)} (hV : ∀ q ∈ V, q.Perm (sides n)) : leastN n (V.map List.reverse) = leastN n V := by
  apply Int.le_antisymm
  · exact least_le h1 h6 List.reverse fun p hp => ⟨(List.reverse_perm p).trans hp, far_turned hV hp⟩
  · refine least_le h1 h6 List.reverse fun p hp => ⟨(List.reverse_perm p).trans hp, ?_⟩
    have hr : p.reverse.Perm (sides n) := (List.reverse_perm p).trans hp
    have h := far_turned hV hr
    rw [List.reverse_reverse] at h
    exact h.symm
end Fm

/-
  The strongest paths of a pairwise table, by all paths that go through no alternative twice, and what they keep: no Go text.
-/
namespace Fm
set_option linter.unusedVariables false

/-- A step of strength t at least. -/
def edge (M : List (List Int)) (t : Int) (x k : Nat) : Prop := btB M x k = true ∧ t ≤ ent M x k
/-- The greatest of the first k, and 0. -/
def mxTo (g : Nat → Int) : Nat → Int
  | 0 => 0
  | k + 1 => max (mxTo g k) (g k)
theorem mxTo_nonneg (g : Nat → Int) (k : Nat) : 0 ≤ mxTo g k := by
  induction k with
  | zero => exact Int.le_refl _
  | succ k ih => rw [mxTo]; omega
theorem le_mxTo {g : Nat → Int} {t : Int} (ht : 1 ≤ t) (m : Nat) : t ≤ mxTo g m ↔ ∃ k, k < m ∧ t ≤ g k := by
  induction m with
  | zero => exact ⟨fun h => by rw [mxTo] at h; omega, fun ⟨k, h, _⟩ => absurd h (by omega)⟩
  | succ m ih =>
    rw [mxTo]
    constructor
    · intro h
      by_cases h2 : t ≤ g m
      · exact ⟨m, by omega, h2⟩
      · obtain ⟨k, h3, h4⟩ := ih.1 (by omega)
        exact ⟨k, by omega, h4⟩
    · rintro ⟨k, h3, h4⟩
      by_cases e : k = m
      · subst e; omega
      · have := ih.2 ⟨k, by omega, h4⟩
        omega
theorem mxTo_le {g : Nat → Int} {b : Int} (hb : 0 ≤ b) (m : Nat) (h : ∀ k, k < m → g k ≤ b) : mxTo g m ≤ b := by
  induction m with
  | zero => exact hb
  | succ m ih =>
    rw [mxTo]
    have := ih (fun k hk => h k (by omega))
    have := h m (by omega)
    omega
theorem mxTo_congr {g h : Nat → Int} (m : Nat) (e : ∀ k, k < m → g k = h k) : mxTo g m = mxTo h m := by
  induction m with
  | zero => rfl
  | succ m ih => rw [mxTo, mxTo, ih (fun k hk => e k (by omega)), e m (by omega)]

/-- The strongest path from x to y by alternatives that s has not, of width wd so far; f: how many are left. -/
def wayF (n : Nat) (M : List (List Int)) : Nat → Nat → Nat → Nat → Int → Int
  | 0, x, y, s, wd => if x = y then wd else 0
  | f + 1, x, y, s, wd => if x = y then wd else mxTo (fun k => if s.testBit k = false ∧ btB M x k = true then wayF n M f k y (s ||| 2 ^ k) (min wd (ent M x k)) else 0) n
/-- A path of strength t, by alternatives that s has not, none of them twice. -/
def Av (n : Nat) (M : List (List Int)) (t : Int) : Nat → Nat → Nat → Nat → Prop
  | 0, s, x, y => x = y
  | f + 1, s, x, y => x = y ∨ ∃ k, k < n ∧ s.testBit k = false ∧ edge M t x k ∧ Av n M t f (s ||| 2 ^ k) k y
/-- A walk of strength t and of l steps, by alternatives that s has not. -/
def Wk (n : Nat) (M : List (List Int)) (t : Int) (s : Nat) : Nat → Nat → Nat → Prop
  | 0, x, y => x = y
  | l + 1, x, y => ∃ k, k < n ∧ s.testBit k = false ∧ edge M t x k ∧ Wk n M t s l k y

theorem way_iff {n : Nat} {M : List (List Int)} {t : Int} (ht : 1 ≤ t) : ∀ (f x y s : Nat) (wd : Int), t ≤ wayF n M f x y s wd ↔ t ≤ wd ∧ Av n M t f s x y := by
  intro f
  induction f with
  | zero =>
    intro x y s wd
    rw [wayF, Av]
    by_cases e : x = y
    · rw [if_pos e]; exact ⟨fun h => ⟨h, e⟩, fun h => h.1⟩
    · rw [if_neg e]; exact ⟨fun h => by omega, fun h => absurd h.2 e⟩
  | succ f ih =>
    intro x y s wd
    rw [wayF, Av]
    by_cases e : x = y
    · rw [if_pos e]; exact ⟨fun h => ⟨h, .inl e⟩, fun h => h.1⟩
    · rw [if_neg e, le_mxTo ht]
      constructor
      · rintro ⟨k, hk, h⟩
        by_cases hc : s.testBit k = false ∧ btB M x k = true
        · rw [if_pos hc, ih] at h
          exact ⟨by omega, .inr ⟨k, hk, hc.1, ⟨hc.2, by omega⟩, h.2⟩⟩
        · rw [if_neg hc] at h; omega
      · rintro ⟨h1, h2⟩
        rcases h2 with h2 | ⟨k, hk, hs, he, hv⟩
        · exact absurd h2 e
        · refine ⟨k, hk, ?_⟩
          rw [if_pos ⟨hs, he.1⟩, ih]
          exact ⟨by have := he.2; omega, hv⟩

theorem bit_or (s k j : Nat) : (s ||| 2 ^ k).testBit j = (s.testBit j || decide (k = j)) := by rw [Nat.testBit_or, Nat.testBit_two_pow]
section
variable {n : Nat} {M : List (List Int)} {t : Int}
theorem Wk.sub {s s' : Nat} (hs : ∀ k, s'.testBit k = true → s.testBit k = true) : ∀ {l x y : Nat}, Wk n M t s l x y → Wk n M t s' l x y := by
  intro l
  induction l with
  | zero => exact fun h => h
  | succ l ih =>
    rintro x y ⟨k, hk, h1, h2, h3⟩
    refine ⟨k, hk, ?_, h2, ih h3⟩
    cases hb : s'.testBit k with
    | false => rfl
    | true => rw [hs k hb] at h1; cases h1
theorem Wk.avoid {s x : Nat} : ∀ {l k y : Nat}, Wk n M t s l k y → Wk n M t (s ||| 2 ^ x) l k y ∨ ∃ l', l' < l ∧ Wk n M t s l' x y := by
  intro l
  induction l with
  | zero => exact fun h => .inl h
  | succ l ih =>
    rintro k y ⟨j, hj, h1, h2, h3⟩
    by_cases e : j = x
    · subst e; exact .inr ⟨l, by omega, h3⟩
    · rcases ih h3 with h4 | ⟨l', h4, h5⟩
      · refine .inl ⟨j, hj, ?_, h2, h4⟩
        rw [bit_or, h1]; simp; omega
      · exact .inr ⟨l', by omega, h5⟩
theorem Wk.last {s : Nat} : ∀ (l : Nat) {x y : Nat}, Wk n M t s l x y → ∃ l', l' ≤ l ∧ Wk n M t (s ||| 2 ^ x) l' x y := by
  intro l
  induction l using Nat.strongRecOn with
  | ind l ih =>
    intro x y h
    rcases h.avoid (x := x) with h1 | ⟨l', h1, h2⟩
    · exact ⟨l, Nat.le_refl _, h1⟩
    · obtain ⟨l'', h3, h4⟩ := ih l' h1 h2
      exact ⟨l'', by omega, h4⟩
theorem Wk.av : ∀ (l : Nat) {s x y : Nat}, Wk n M t s l x y → Av n M t l s x y := by
  intro l
  induction l using Nat.strongRecOn with
  | ind l ih =>
    intro s x y h
    cases l with
    | zero => exact h
    | succ l =>
      obtain ⟨k, hk, h1, h2, h3⟩ := h
      obtain ⟨l', h4, h5⟩ := h3.last
      have h6 := ih l' (by omega) h5
      refine .inr ⟨k, hk, h1, h2, ?_⟩
      have more : ∀ (a b s x y : Nat), a ≤ b → Av n M t a s x y → Av n M t b s x y := by
        intro a
        induction a with
        | zero =>
          intro b s x y _ h
          cases b with
          | zero => exact h
          | succ b => exact .inl h
        | succ a iha =>
          intro b s x y hab h
          cases b with
          | zero => omega
          | succ b =>
            rcases h with h | ⟨k, hk, h1, h2, h3⟩
            · exact .inl h
            · exact .inr ⟨k, hk, h1, h2, iha b _ _ _ (by omega) h3⟩
      exact more _ _ _ _ _ h4 h6
/-- How many of the first n are not in s. -/
def freeN (n s : Nat) : Nat := ((List.range n).filter (fun k => !s.testBit k)).length
theorem freeN_le (n s : Nat) : freeN n s ≤ n := by unfold freeN; exact Nat.le_trans (List.length_filter_le _ _) (by simp)
theorem freeN_or {s k : Nat} (hk : k < n) (h : s.testBit k = false) : freeN n (s ||| 2 ^ k) + 1 = freeN n s := by
  unfold freeN
  induction n with
  | zero => omega
  | succ n ih =>
    rw [List.range_succ, List.filter_append, List.filter_append, List.length_append, List.length_append]
    by_cases e : k = n
    · subst e
      have e1 : (List.range k).filter (fun j => !(s ||| 2 ^ k).testBit j) = (List.range k).filter (fun j => !s.testBit j) := by
        apply List.filter_congr
        intro j hj
        have := List.mem_range.1 hj
        rw [bit_or]
        have : decide (k = j) = false := by simp; omega
        rw [this, Bool.or_false]
      rw [e1]
      simp [h]
    · have := ih (by omega)
      have e2 : [n].filter (fun j => !(s ||| 2 ^ k).testBit j) = [n].filter (fun j => !s.testBit j) := by
        apply List.filter_congr
        intro j hj
        have := List.mem_singleton.1 hj
        subst this
        rw [bit_or]
        have : decide (k = j) = false := by simp; omega
        rw [this, Bool.or_false]
      rw [e2]; omega
theorem Av.fuel : ∀ (a f s x y : Nat), freeN n s ≤ f → Av n M t a s x y → Av n M t f s x y := by
  intro a
  induction a with
  | zero =>
    intro f s x y _ h
    cases f with
    | zero => exact h
    | succ f => exact .inl h
  | succ a ih =>
    intro f s x y hf h
    rcases h with h | ⟨k, hk, h1, h2, h3⟩
    · cases f with
      | zero => exact h
      | succ f => exact .inl h
    · have := freeN_or hk h1
      cases f with
      | zero => omega
      | succ f => exact .inr ⟨k, hk, h1, h2, ih f _ _ _ (by omega) h3⟩
theorem Av.walk : ∀ (f : Nat) {s x y : Nat}, Av n M t f s x y → ∃ l, Wk n M t 0 l x y := by
  intro f
  induction f with
  | zero => exact fun h => ⟨0, h⟩
  | succ f ih =>
    intro s x y h
    rcases h with h | ⟨k, hk, _, h2, h3⟩
    · exact ⟨0, h⟩
    · obtain ⟨l, hl⟩ := ih h3
      exact ⟨l + 1, k, hk, Nat.zero_testBit k, h2, hl⟩

/-- From x one comes to y by steps of strength t. -/
def Rch (n : Nat) (M : List (List Int)) (t : Int) (x y : Nat) : Prop := ∃ l, Wk n M t 0 l x y
theorem Rch.refl (x : Nat) : Rch n M t x x := ⟨0, rfl⟩
theorem Rch.step {x k y : Nat} (hk : k < n) (h : edge M t x k) (h2 : Rch n M t k y) : Rch n M t x y := by
  obtain ⟨l, hl⟩ := h2
  exact ⟨l + 1, k, hk, Nat.zero_testBit k, h, hl⟩
theorem Rch.trans {x y z : Nat} (h : Rch n M t x y) (h2 : Rch n M t y z) : Rch n M t x z := by
  obtain ⟨l, hl⟩ := h
  induction l generalizing x with
  | zero => have : x = y := hl
            subst this; exact h2
  | succ l ih =>
    obtain ⟨k, hk, _, he, hw⟩ := hl
    exact Rch.step hk he (ih hw)
theorem Rch.ind {x y : Nat} (h : Rch n M t x y) {P : Nat → Prop} (h0 : P x) (hs : ∀ a b, a < n ∨ a = x → b < n → P a → edge M t a b → P b) : P y := by
  obtain ⟨l, hl⟩ := h
  have : ∀ l x', (x' < n ∨ x' = x) → P x' → Wk n M t 0 l x' y → P y := by
    intro l
    induction l with
    | zero => intro x' _ hp h; have : x' = y := h
              subst this; exact hp
    | succ l ih =>
      rintro x' hx hp ⟨k, hk, _, he, hw⟩
      exact ih k (.inl hk) (hs x' k hx hk hp he) hw
  exact this l x (.inr rfl) h0 hl
theorem way_rch (ht : 1 ≤ t) {f x y : Nat} {wd : Int} (hf : n ≤ f) : t ≤ wayF n M f x y (2 ^ x) wd ↔ t ≤ wd ∧ Rch n M t x y := by
  rw [way_iff ht]
  constructor
  · rintro ⟨h1, h2⟩; exact ⟨h1, h2.walk⟩
  · rintro ⟨h1, l, h2⟩
    obtain ⟨l', _, h3⟩ := h2.last
    rw [Nat.zero_or] at h3
    exact ⟨h1, (h3.av).fuel _ _ _ _ _ (Nat.le_trans (freeN_le _ _) hf)⟩
end
end Fm

/-
  Schulze's paths: three alternatives, who wins, and the smallest set of which each beats all others: no Go text.
-/
namespace Fm
set_option linter.unusedVariables false

/-- The strength of the strongest path from x to y. -/
def pathE (n : Nat) (M : List (List Int)) (x y : Nat) : Int := if x = y then 0 else wayF n M n x y (2 ^ x) 1000
def pathM (n : Nat) (M : List (List Int)) : List (List Int) := fnM n (fun x y => pathE n M x.toNat y.toNat)
theorem pathM_len (n : Nat) (M : List (List Int)) : (pathM n M).length = n := fnM_len _ _
theorem pathM_rows {n : Nat} {M : List (List Int)} {l : List Int} (h : l ∈ pathM n M) : l.length = n := fnM_rows h
theorem pathM_ent {n : Nat} {M : List (List Int)} {x y : Nat} (hx : x < n) (hy : y < n) : ent (pathM n M) x y = pathE n M x y := fnM_ent n _ hx hy
/-- Who wins. -/
def winB (n : Nat) (M : List (List Int)) (x : Nat) : Bool := (List.range n).all fun y => decide (pathE n M y x ≤ pathE n M x y)
def winP (n : Nat) (M : List (List Int)) : List Int := ((List.range n).filter fun x => winB n M x).map fun (i : Nat) => (i : Int)

section
variable {n : Nat} {M : List (List Int)}
theorem wayF_nonneg : ∀ (f x y s : Nat) (wd : Int), 0 ≤ wd → 0 ≤ wayF n M f x y s wd := by
  intro f
  cases f with
  | zero => intro x y s wd h; rw [wayF]; split <;> omega
  | succ f => intro x y s wd h; rw [wayF]; split
              · exact h
              · exact mxTo_nonneg _ _
theorem path_nonneg (x y : Nat) : 0 ≤ pathE n M x y := by
  unfold pathE; split
  · omega
  · exact wayF_nonneg _ _ _ _ _ (by omega)
theorem path_diag (x : Nat) : pathE n M x x = 0 := by unfold pathE; rw [if_pos rfl]
theorem rch_le (T : Tab n M) {t : Int} {x y : Nat} (hxy : x ≠ y) (h : Rch n M t x y) : t ≤ 30 := by
  obtain ⟨l, hl⟩ := h
  cases l with
  | zero => exact absurd hl hxy
  | succ l =>
    obtain ⟨k, _, _, he, _⟩ := hl
    have := he.2
    have := (T.bd x k).2
    omega
theorem path_iff (T : Tab n M) {t : Int} (ht : 1 ≤ t) {x y : Nat} (hxy : x ≠ y) : t ≤ pathE n M x y ↔ Rch n M t x y := by
  unfold pathE
  rw [if_neg hxy, way_rch ht (Nat.le_refl _)]
  exact ⟨fun h => h.2, fun h => ⟨by have := rch_le T hxy h; omega, h⟩⟩
theorem path_le (T : Tab n M) (x y : Nat) : pathE n M x y ≤ 30 := by
  by_cases hxy : x = y
  · subst hxy; rw [path_diag]; omega
  · by_cases h : 1 ≤ pathE n M x y
    · exact rch_le T hxy ((path_iff T h hxy).1 (Int.le_refl _))
    · omega
/-- What is a table of strongest paths, whoever has made it. -/
theorem path_eq (T : Tab n M) {x y : Nat} (hxy : x ≠ y) {v : Int} (h0 : 0 ≤ v) (h : ∀ t, 1 ≤ t → (t ≤ v ↔ Rch n M t x y)) : v = pathE n M x y := by
  have hp := path_nonneg (n := n) (M := M) x y
  by_cases h1 : v < pathE n M x y
  · have := (h (v + 1) (by omega)).2 ((path_iff T (by omega) hxy).1 (by omega))
    omega
  · by_cases h2 : pathE n M x y < v
    · have := (path_iff T (t := pathE n M x y + 1) (by omega) hxy).2 ((h _ (by omega)).1 (by omega))
      omega
    · omega
theorem path_third (T : Tab n M) {x y z : Nat} (hxy : x ≠ y) (hyz : y ≠ z) (hxz : x ≠ z) : min (pathE n M x y) (pathE n M y z) ≤ pathE n M x z := by
  have h0 := path_nonneg (n := n) (M := M) x z
  by_cases h : 1 ≤ min (pathE n M x y) (pathE n M y z)
  · exact (path_iff T h hxz).2 (((path_iff T h hxy).1 (by omega)).trans ((path_iff T h hyz).1 (by omega)))
  · omega
theorem path_duel (T : Tab n M) {x y : Nat} (hy : y < n) (h : ent M y x < ent M x y) : ent M x y ≤ pathE n M x y := by
  have hxy : x ≠ y := fun e => by subst e; omega
  have := (T.bd y x).1
  exact (path_iff T (by omega) hxy).2 (Rch.step hy ⟨by unfold btB; exact decide_eq_true h, Int.le_refl _⟩ (Rch.refl y))
theorem path_order (T : Tab n M) {x y z : Nat} (h1 : pathE n M y x < pathE n M x y) (h2 : pathE n M z y < pathE n M y z) : pathE n M z x < pathE n M x z := by
  have hxy : x ≠ y := fun e => by subst e; omega
  have hyz : y ≠ z := fun e => by subst e; omega
  have hxz : x ≠ z := fun e => by subst e; omega
  have a := path_third T hxy hyz hxz
  have b := path_third T hyz (Ne.symm hxz) (Ne.symm hxy)
  have c := path_third T (Ne.symm hxz) hxy (Ne.symm hyz)
  omega
theorem mem_winP {x : Nat} : (x : Int) ∈ winP n M ↔ x < n ∧ ∀ y, y < n → pathE n M y x ≤ pathE n M x y := by
  unfold winP winB
  simp only [List.mem_map, List.mem_filter, List.mem_range, List.all_eq_true, decide_eq_true_eq]
  constructor
  · rintro ⟨a, ⟨h1, h2⟩, h3⟩
    have : a = x := by omega
    subst this; exact ⟨h1, h2⟩
  · rintro ⟨h1, h2⟩; exact ⟨x, ⟨h1, h2⟩, rfl⟩
theorem winP_range {x : Int} (h : x ∈ winP n M) : 0 ≤ x ∧ x < n := by
  unfold winP at h
  simp only [List.mem_map, List.mem_filter, List.mem_range] at h
  obtain ⟨a, ⟨h1, _⟩, rfl⟩ := h
  omega
theorem winP_len : (winP n M).length ≤ n := by
  unfold winP; rw [List.length_map]; exact Nat.le_trans (List.length_filter_le _ _) (by simp)
theorem winP_ne (T : Tab n M) : winP n M ≠ [] := by
  have h : ∀ m, 1 ≤ m → m ≤ n → ∃ x, x < m ∧ ∀ y, y < m → pathE n M y x ≤ pathE n M x y := by
    intro m
    induction m with
    | zero => intro h; omega
    | succ m ih =>
      intro _ hm
      by_cases h0 : m = 0
      · subst h0
        exact ⟨0, by omega, fun y hy => by have : y = 0 := by omega
                                           subst this; exact Int.le_refl _⟩
      · obtain ⟨x, hx, hw⟩ := ih (by omega) (by omega)
        by_cases hd : pathE n M x m < pathE n M m x
        · refine ⟨m, by omega, fun y hy => ?_⟩
          by_cases e : y = m
          · subst e; exact Int.le_refl _
          · have h2 := hw y (by omega)
            by_cases h3 : pathE n M y m ≤ pathE n M m y
            · exact h3
            · have := path_order T (show pathE n M m y < pathE n M y m by omega) hd
              omega
        · refine ⟨x, by omega, fun y hy => ?_⟩
          by_cases e : y = m
          · subst e; omega
          · exact hw y (by omega)
  obtain ⟨x, hx, hw⟩ := h n T.pos (Nat.le_refl _)
  intro e
  have := mem_winP.2 ⟨hx, hw⟩
  rw [e] at this
  cases this
theorem path_out (T : Tab n M) {x s : Nat} (hx : x < n) (hs : s < n) (h1 : (s : Int) ∈ topL n M) (h2 : (x : Int) ∉ topL n M) : pathE n M x s = 0 := by
  have h0 := path_nonneg (n := n) (M := M) x s
  have hxs : x ≠ s := fun e => by subst e; exact h2 h1
  by_cases h : 1 ≤ pathE n M x s
  · exfalso
    have hr := (path_iff T h hxs).1 (Int.le_refl _)
    have : (s : Int) ∉ topL n M := hr.ind (P := fun z => (z : Int) ∉ topL n M) h2 (fun a b ha hb hp he hm => by
      have := top_dom T.pos M hb (by rcases ha with ha | ha; exact ha; omega) hm hp
      have hb := he.1
      unfold btB at hb
      have := of_decide_eq_true hb
      omega)
    exact this h1
  · omega
theorem win_top (T : Tab n M) {x : Int} (h : x ∈ winP n M) : x ∈ topL n M := by
  have hr := winP_range h
  obtain ⟨k, rfl⟩ : ∃ k : Nat, x = k := ⟨x.toNat, by omega⟩
  obtain ⟨hk, hw⟩ := mem_winP.1 h
  by_cases hm : (k : Int) ∈ topL n M
  · exact hm
  · exfalso
    obtain ⟨s, hs⟩ := List.exists_mem_of_ne_nil _ (top_ne T.pos M)
    have hsr := topL_range hs
    obtain ⟨j, rfl⟩ : ∃ j : Nat, s = j := ⟨s.toNat, by omega⟩
    have hd := top_dom T.pos M (show j < n by omega) hk hs hm
    have h1 := path_duel T hk hd
    have h2 := path_out T hk (show j < n by omega) hs hm
    have h3 := hw j (by omega)
    have := (T.bd k j).1
    omega
theorem winP_nodup : (winP n M).Nodup := by
  unfold winP
  exact List.Pairwise.map _ (fun a b hab => by intro e; exact hab (by omega)) ((List.nodup_range).filter _)
theorem win_one (T : Tab n M) (h : (topL n M).length = 1) : winP n M = topL n M := by
  obtain ⟨s, hs⟩ : ∃ s, topL n M = [s] := by
    cases ht : topL n M with
    | nil => rw [ht] at h; cases h
    | cons a l =>
      rw [ht] at h
      cases l with
      | nil => exact ⟨a, rfl⟩
      | cons b l => simp at h
  have hall : ∀ x ∈ winP n M, x = s := fun x hx => by have := win_top T hx; rw [hs] at this; simpa using this
  have hnd := winP_nodup (n := n) (M := M)
  have hne := winP_ne T
  rw [hs]
  cases hw : winP n M with
  | nil => exact absurd hw hne
  | cons a l =>
    rw [hw] at hall hnd
    have ha := hall a (by simp)
    subst ha
    cases l with
    | nil => rfl
    | cons b l =>
      have hb := hall b (by simp)
      subst hb
      simp at hnd
end
end Fm

/-
  Orders along a line (single-peaked ones), the one in the middle, and Black's theorems: lists of ints alone, no Go text.
-/
namespace Fm
set_option linter.unusedVariables false

/-- The j-th of the line is after the i-th and after the k-th in p. -/
def lastB (line p : List Int) (i j k : Nat) : Bool := decide (pos p (line.getD i 0) < pos p (line.getD j 0) ∧ pos p (line.getD k 0) < pos p (line.getD j 0))
def alongB (line p : List Int) : Bool := (List.range line.length).all fun k => (List.range k).all fun j => (List.range j).all fun i => !lastB line p i j k
/-- p is single-peaked along the line. -/
def Along (line p : List Int) : Prop := ∀ i j k, i < j → j < k → k < line.length → lastB line p i j k = false
theorem along_iff {line p : List Int} : alongB line p = true ↔ Along line p := by
  unfold alongB Along
  simp only [List.all_eq_true, List.mem_range, Bool.not_eq_true']
  exact ⟨fun h i j k hi hj hk => h k hk j hj i hi, fun h k hk j hj i hi => h i j k hi hj hk⟩
theorem along_not {line p : List Int} {i j k : Nat} (hi : i < j) (hj : j < k) (hk : k < line.length) (h : lastB line p i j k = true) : alongB line p = false := by
  cases hh : alongB line p with
  | false => rfl
  | true => rw [along_iff.1 hh i j k hi hj hk] at h; cases h
theorem Along.not_last {line p : List Int} (h : Along line p) {i j k : Nat} (hi : i < j) (hj : j < k) (hk : k < line.length) : ¬ (pos p (line.getD i 0) < pos p (line.getD j 0) ∧ pos p (line.getD k 0) < pos p (line.getD j 0)) :=
  of_decide_eq_false (h i j k hi hj hk)

section
variable {n : Nat} {line p : List Int}
theorem perm_len (h : p.Perm (sides n)) : p.length = n := by have := h.length_eq; rwa [sides_len] at this
theorem perm_nodup (h : p.Perm (sides n)) : p.Nodup := h.nodup_iff.2 (sides_nodup n)
/-- Between: m lies between a and c on the line: who has a ahead of m has a ahead of c. -/
theorem Along.ahead (hl : line.Perm (sides n)) (h : Along line p) {a m c : Int} (ha : a ∈ line) (hm : m ∈ line) (hc : c ∈ line)
    (hb : (pos line a < pos line m ∧ pos line m < pos line c) ∨ (pos line c < pos line m ∧ pos line m < pos line a)) (hp : pos p a < pos p m) : pos p a < pos p c := by
  have hnd := perm_nodup hl
  obtain ⟨i, hi, hia, hpa⟩ := pos_mem hnd ha
  obtain ⟨j, hj, hjm, hpm⟩ := pos_mem hnd hm
  obtain ⟨k, hk, hkc, hpc⟩ := pos_mem hnd hc
  rw [hpa, hpm, hpc] at hb
  rcases hb with hb | hb
  · have := h.not_last (i := i) (j := j) (k := k) (by omega) (by omega) hk
    rw [hia, hjm, hkc] at this
    omega
  · have := h.not_last (i := k) (j := j) (k := i) (by omega) (by omega) hi
    rw [hia, hjm, hkc] at this
    omega
theorem cnt_ahead (hl : line.Perm (sides n)) {V : List (List Int)} (hV : ∀ p ∈ V, Along line p) {a m c : Int} (ha : a ∈ line) (hm : m ∈ line) (hc : c ∈ line)
    (hb : (pos line a < pos line m ∧ pos line m < pos line c) ∨ (pos line c < pos line m ∧ pos line m < pos line a)) : cnt V a m ≤ cnt V a c := by
  unfold cnt
  apply List.countP_mono_left
  intro p hp h
  exact decide_eq_true ((hV p hp).ahead hl ha hm hc hb (of_decide_eq_true h))
/-- Black: of an odd number of votes along a line, to beat goes on over a third. -/
theorem peak_order (hl : line.Perm (sides n)) {V : List (List Int)} (hVp : ∀ p ∈ V, p.Perm (sides n)) (hV : ∀ p ∈ V, Along line p) (hodd : V.length % 2 = 1) {a b c : Nat} (ha : a < n) (hb : b < n) (hc : c < n) (hac : a ≠ c)
    (h1 : cnt V b a < cnt V a b) (h2 : cnt V c b < cnt V b c) : cnt V c a < cnt V a c := by
  have hab : a ≠ b := fun e => by subst e; omega
  have hbc : b ≠ c := fun e => by subst e; omega
  have e1 := duel_both hVp ha hb hab
  have e2 := duel_both hVp hb hc hbc
  have e3 := duel_both hVp ha hc hac
  have mem : ∀ x : Nat, x < n → (x : Int) ∈ line := fun x hx => hl.mem_iff.2 (mem_sides.2 ⟨by omega, by omega⟩)
  have hnd := perm_nodup hl
  have ne : ∀ x y : Nat, x < n → y < n → x ≠ y → pos line x ≠ pos line y := fun x y hx hy hxy e => hxy (by have := pos_inj hnd (mem x hx) (mem y hy) e; omega)
  have n1 := ne a b ha hb hab
  have n2 := ne b c hb hc hbc
  have n3 := ne a c ha hc hac
  by_cases q : cnt V c a < cnt V a c
  · exact q
  · exfalso
    by_cases m1 : (pos line a < pos line b ∧ pos line b < pos line c) ∨ (pos line c < pos line b ∧ pos line b < pos line a)
    · have := cnt_ahead hl hV (mem a ha) (mem b hb) (mem c hc) m1; omega
    · by_cases m2 : (pos line b < pos line c ∧ pos line c < pos line a) ∨ (pos line a < pos line c ∧ pos line c < pos line b)
      · have := cnt_ahead hl hV (mem b hb) (mem c hc) (mem a ha) m2; omega
      · have m3 : (pos line c < pos line a ∧ pos line a < pos line b) ∨ (pos line b < pos line a ∧ pos line a < pos line c) := by omega
        have := cnt_ahead hl hV (mem c hc) (mem a ha) (mem b hb) m3; omega
end

/-- The first of the list, s counted before it, with which half of N have come. -/
def midF (V : List (List Int)) (N : Nat) : Nat → List Int → Int
  | s, [] => -1
  | s, x :: t => if N ≤ 2 * (s + fst1 V x) then x else midF V N (s + fst1 V x) t
/-- The one in the middle. -/
def midL (line : List Int) (V : List (List Int)) : Int := midF V V.length 0 line
/-- How many votes have one of the first k of the line ahead. -/
def upto (line : List Int) (V : List (List Int)) (k : Nat) : Nat := tot (line.take k) (fst1 V)
theorem upto_zero (line : List Int) (V : List (List Int)) : upto line V 0 = 0 := rfl
theorem upto_succ {line : List Int} {k : Nat} (hk : k < line.length) (V : List (List Int)) : upto line V (k + 1) = upto line V k + fst1 V (line.getD k 0) := by
  unfold upto; rw [take_succ_getD line k hk, tot_append, tot_cons, tot_nil]; rfl
theorem midF_at {V : List (List Int)} {N : Nat} : ∀ (t : List Int) (s k : Nat), k < t.length → N ≤ 2 * (s + tot (t.take (k + 1)) (fst1 V)) → (∀ j, j < k → 2 * (s + tot (t.take (j + 1)) (fst1 V)) < N) → midF V N s t = t.getD k 0 := by
  intro t
  induction t with
  | nil => intro s k hk; simp at hk
  | cons x t ih =>
    intro s k hk h1 h2
    rw [midF]
    cases k with
    | zero =>
      rw [List.take_succ_cons, List.take_zero, tot_cons, tot_nil] at h1
      rw [if_pos (by omega)]; rfl
    | succ k =>
      have h3 := h2 0 (by omega)
      rw [List.take_succ_cons, List.take_zero, tot_cons, tot_nil] at h3
      rw [if_neg (by omega)]
      have := ih (s + fst1 V x) k (by simpa using hk) (by rw [List.take_succ_cons, tot_cons] at h1; omega) (fun j hj => by
        have := h2 (j + 1) (by omega)
        rw [List.take_succ_cons, tot_cons] at this
        omega)
      rw [this]; simp
theorem mid_at {line : List Int} {V : List (List Int)} {k : Nat} (hk : k < line.length) (h1 : V.length ≤ 2 * upto line V (k + 1)) (h2 : ∀ j, j < k → 2 * upto line V (j + 1) < V.length) : midL line V = line.getD k 0 := by
  unfold midL
  exact midF_at line 0 k hk (by unfold upto at h1; omega) (fun j hj => by have := h2 j hj; unfold upto at this; omega)
section
variable {n : Nat} {line : List Int} {V : List (List Int)}
theorem upto_all (hl : line.Perm (sides n)) (h1 : 1 ≤ n) (hV : ∀ p ∈ V, p.Perm (sides n)) : upto line V n = V.length := by
  unfold upto
  rw [List.take_of_length_le (by rw [perm_len hl]; exact Nat.le_refl _), tot_perm hl]
  exact sum_firsts h1 hV
theorem mid_has (hl : line.Perm (sides n)) (h1 : 1 ≤ n) (hV : ∀ p ∈ V, p.Perm (sides n)) : ∃ k, k < n ∧ V.length ≤ 2 * upto line V (k + 1) ∧ (∀ j, j < k → 2 * upto line V (j + 1) < V.length) := by
  have h : ∀ m, m ≤ n → (∃ k, k < m ∧ V.length ≤ 2 * upto line V (k + 1) ∧ (∀ j, j < k → 2 * upto line V (j + 1) < V.length)) ∨ ∀ j, j < m → 2 * upto line V (j + 1) < V.length := by
    intro m
    induction m with
    | zero => intro _; exact .inr fun j hj => absurd hj (by omega)
    | succ m ih =>
      intro hm
      rcases ih (by omega) with ⟨k, hk, r⟩ | h2
      · exact .inl ⟨k, by omega, r⟩
      · by_cases h3 : V.length ≤ 2 * upto line V (m + 1)
        · exact .inl ⟨m, by omega, h3, h2⟩
        · refine .inr fun j hj => ?_
          by_cases e : j = m
          · subst e; omega
          · exact h2 j (by omega)
  rcases h n (Nat.le_refl _) with h | h
  · exact h
  · have h2 := h (n - 1) (by omega)
    rw [show n - 1 + 1 = n by omega, upto_all hl h1 hV] at h2
    omega
theorem tot_mem {S : List Int} {φ : Int → Nat} {x : Int} (h : x ∈ S) : φ x ≤ tot S φ := by
  induction S with
  | nil => cases h
  | cons y S ih =>
    rw [tot_cons]
    rcases List.mem_cons.1 h with h | h
    · subst h; omega
    · have := ih h; omega
theorem cnt_consN (p : List Int) (V : List (List Int)) (x y : Int) : cnt (p :: V) x y = cnt V x y + if pos p x < pos p y then 1 else 0 := by
  unfold cnt; rw [List.countP_cons]; simp
theorem fst1_consN (p : List Int) (V : List (List Int)) (x : Int) : fst1 (p :: V) x = fst1 V x + if pos p x = 0 then 1 else 0 := by
  unfold fst1; rw [List.countP_cons]; simp
theorem upto_cons (p : List Int) (V : List (List Int)) (k : Nat) : upto line (p :: V) k = upto line V k + tot (line.take k) (fun x => if pos p x = 0 then 1 else 0) := by
  unfold upto
  rw [← tot_add]
  exact tot_congr fun x _ => fst1_consN p V x
theorem mem_takeK (hl : line.Perm (sides n)) {x : Int} (hx : x ∈ line) {k : Nat} (hk : k ≤ n) : x ∈ line.take k ↔ pos line x < k := by
  have hnd := perm_nodup hl
  have hln := perm_len hl
  obtain ⟨i, hi, hix, hpi⟩ := pos_mem hnd hx
  rw [hpi]
  constructor
  · intro h
    obtain ⟨j, hj, hjx⟩ := List.getElem_of_mem h
    rw [List.length_take] at hj
    rw [List.getElem_take] at hjx
    have : pos line (line.getD j 0) = j := pos_idx hnd (by omega)
    rw [getD_get (by omega), hjx, hpi] at this
    omega
  · intro h
    rw [← hix, List.mem_iff_getElem]
    exact ⟨i, by rw [List.length_take]; omega, by rw [List.getElem_take, getD_get hi]⟩
/-- The first of an order. -/
theorem top_of {p : List Int} (hp : p.Perm (sides n)) (h1 : 1 ≤ n) : p.getD 0 0 ∈ sides n ∧ pos p (p.getD 0 0) = 0 ∧ ∀ x ∈ sides n, pos p x = 0 → x = p.getD 0 0 := by
  have hnd := perm_nodup hp
  have hln := perm_len hp
  have hm : p.getD 0 0 ∈ p := getD_mem p 0 (by omega)
  have h0 := pos_idx hnd (k := 0) (by omega)
  exact ⟨hp.mem_iff.1 hm, h0, fun x hx e => pos_inj hnd (hp.mem_iff.2 hx) hm (by rw [e, h0]; rfl)⟩
/-- The votes for the K-th of the line against one to its left: all but those whose first is to the left of the K-th. -/
theorem black_left (hl : line.Perm (sides n)) (h1 : 1 ≤ n) (hVp : ∀ p ∈ V, p.Perm (sides n)) (hV : ∀ p ∈ V, Along line p) {K Y : Nat} (hK : K < n) (hY : Y < K) : V.length ≤ cnt V (line.getD K 0) (line.getD Y 0) + upto line V K := by
  have hln := perm_len hl
  have hnd := perm_nodup hl
  induction V with
  | nil => simp
  | cons p V ih =>
    have ih := ih (fun q hq => hVp q (List.mem_cons_of_mem _ hq)) (fun q hq => hV q (List.mem_cons_of_mem _ hq))
    have hp := hVp p (List.mem_cons_self)
    have ha := hV p (List.mem_cons_self)
    obtain ⟨t1, t2, t3⟩ := top_of hp h1
    have tl := hl.mem_iff.2 t1
    rw [cnt_consN, upto_cons, List.length_cons]
    have hpK := pos_idx hnd (k := K) (by omega)
    have hpY := pos_idx hnd (k := Y) (by omega)
    have mK : line.getD K 0 ∈ line := getD_mem line K (by omega)
    have mY : line.getD Y 0 ∈ line := getD_mem line Y (by omega)
    by_cases q : pos line (p.getD 0 0) < K
    · have h4 := tot_mem (φ := fun x => if pos p x = 0 then 1 else 0) ((mem_takeK hl tl (k := K) (by omega)).2 q)
      simp only [t2, if_true] at h4
      omega
    · have hlt : pos p (line.getD K 0) < pos p (line.getD Y 0) := by
        have hY0 : pos p (line.getD Y 0) ≠ 0 := fun e => by
          have := t3 _ (hl.mem_iff.1 mY) e
          rw [← this, hpY] at q
          omega
        by_cases e : p.getD 0 0 = line.getD K 0
        · rw [← e, t2]
          have := pos_range hp (x := (line.getD Y 0).toNat) (by have := mem_sides.1 (hl.mem_iff.1 mY); omega)
          rw [show ((line.getD Y 0).toNat : Int) = line.getD Y 0 by have := mem_sides.1 (hl.mem_iff.1 mY); omega] at this
          omega
        · have hne : pos line (p.getD 0 0) ≠ K := fun e2 => e (pos_inj hnd tl mK (by rw [e2, hpK]))
          have hYK : pos p (line.getD Y 0) ≠ pos p (line.getD K 0) := fun e3 => by
            have := pos_inj (perm_nodup hp) (hp.mem_iff.2 (hl.mem_iff.1 mY)) (hp.mem_iff.2 (hl.mem_iff.1 mK)) e3
            rw [this, hpK] at hpY; omega
          by_cases q2 : pos p (line.getD Y 0) < pos p (line.getD K 0)
          · exfalso
            have h0 := pos_range hp (x := (line.getD Y 0).toNat) (by have := mem_sides.1 (hl.mem_iff.1 mY); omega)
            rw [show ((line.getD Y 0).toNat : Int) = line.getD Y 0 by have := mem_sides.1 (hl.mem_iff.1 mY); omega] at h0
            have := ha.ahead hl mY mK tl (.inl ⟨by omega, by omega⟩) q2
            rw [t2] at this
            omega
          · omega
      rw [if_pos hlt]
      omega
theorem black_right (hl : line.Perm (sides n)) (h1 : 1 ≤ n) (hVp : ∀ p ∈ V, p.Perm (sides n)) (hV : ∀ p ∈ V, Along line p) {K Y : Nat} (hY : K < Y) (hYn : Y < n) : upto line V (K + 1) ≤ cnt V (line.getD K 0) (line.getD Y 0) := by
  have hln := perm_len hl
  have hnd := perm_nodup hl
  induction V with
  | nil => have : upto line [] (K + 1) = 0 := tot_zero.2 (fun x _ => rfl)
           omega
  | cons p V ih =>
    have ih := ih (fun q hq => hVp q (List.mem_cons_of_mem _ hq)) (fun q hq => hV q (List.mem_cons_of_mem _ hq))
    have hp := hVp p (List.mem_cons_self)
    have ha := hV p (List.mem_cons_self)
    obtain ⟨t1, t2, t3⟩ := top_of hp h1
    have tl := hl.mem_iff.2 t1
    rw [cnt_consN, upto_cons]
    have hpK := pos_idx hnd (k := K) (by omega)
    have hpY := pos_idx hnd (k := Y) (by omega)
    have mK : line.getD K 0 ∈ line := getD_mem line K (by omega)
    have mY : line.getD Y 0 ∈ line := getD_mem line Y (by omega)
    have hone : tot (line.take (K + 1)) (fun x => if pos p x = 0 then 1 else 0) ≤ 1 := by
      have h5 : tot (line.take (K + 1)) (fun x => if pos p x = 0 then 1 else 0) ≤ tot line (fun x => if pos p x = 0 then 1 else 0) := by
        have e := List.take_append_drop (K + 1) line
        have : tot line (fun x => if pos p x = 0 then 1 else 0) = tot (line.take (K + 1)) (fun x => if pos p x = 0 then 1 else 0) + tot (line.drop (K + 1)) (fun x => if pos p x = 0 then 1 else 0) := by
          rw [← tot_append, e]
        omega
      have h6 : tot line (fun x => if pos p x = 0 then 1 else 0) = 1 := by
        rw [tot_perm hl]
        have := tot_pos hp (fun z => if z = 0 then 1 else 0)
        rw [this, tot_first, if_pos (by omega)]
      omega
    by_cases q : pos line (p.getD 0 0) < (K + 1 : Nat)
    · have hlt : pos p (line.getD K 0) < pos p (line.getD Y 0) := by
        have y0 := pos_range hp (x := (line.getD Y 0).toNat) (by have := mem_sides.1 (hl.mem_iff.1 mY); omega)
        rw [show ((line.getD Y 0).toNat : Int) = line.getD Y 0 by have := mem_sides.1 (hl.mem_iff.1 mY); omega] at y0
        have hY0 : pos p (line.getD Y 0) ≠ 0 := fun e => by
          have := t3 _ (hl.mem_iff.1 mY) e
          rw [← this, hpY] at q
          omega
        by_cases e : p.getD 0 0 = line.getD K 0
        · rw [← e, t2]; omega
        · have hne : pos line (p.getD 0 0) ≠ K := fun e2 => e (pos_inj hnd tl mK (by rw [e2, hpK]))
          have hYK : pos p (line.getD Y 0) ≠ pos p (line.getD K 0) := fun e3 => by
            have := pos_inj (perm_nodup hp) (hp.mem_iff.2 (hl.mem_iff.1 mY)) (hp.mem_iff.2 (hl.mem_iff.1 mK)) e3
            rw [this, hpK] at hpY; omega
          by_cases q2 : pos p (line.getD Y 0) < pos p (line.getD K 0)
          · exfalso
            have := ha.ahead hl mY mK tl (.inr ⟨by omega, by omega⟩) q2
            rw [t2] at this
            omega
          · omega
      rw [if_pos hlt]
      omega
    · have h7 : tot (line.take (K + 1)) (fun x => if pos p x = 0 then 1 else 0) = 0 := tot_zero.2 fun x hx => by
        by_cases e : pos p x = 0
        · exfalso
          have hxl : x ∈ line := List.mem_of_mem_take hx
          have := t3 x (hl.mem_iff.1 hxl) e
          rw [this] at hx
          exact q ((mem_takeK hl tl (by omega)).1 hx)
        · rw [if_neg e]
      omega
/-- Black: who stands in the middle is beaten by nobody, and of an odd number of votes beats all others. -/
theorem peak_black (hl : line.Perm (sides n)) (h1 : 1 ≤ n) (hVp : ∀ p ∈ V, p.Perm (sides n)) (hV : ∀ p ∈ V, Along line p) (hne : 1 ≤ V.length) :
    ∃ k : Nat, k < n ∧ midL line V = k ∧ (∀ y : Nat, y < n → cnt V y k ≤ cnt V k y) ∧ (V.length % 2 = 1 → Beats n V k) := by
  have hln := perm_len hl
  have hnd := perm_nodup hl
  obtain ⟨K, hK, hup, hlo⟩ := mid_has hl h1 hVp
  have hm := mid_at (by omega) hup hlo
  have hlow : 2 * upto line V K < V.length := by
    cases K with
    | zero => rw [upto_zero]; omega
    | succ K => exact hlo K (by omega)
  have mK := mem_sides.1 (hl.mem_iff.1 (getD_mem line K (by omega)))
  obtain ⟨k, hk⟩ : ∃ k : Nat, line.getD K 0 = k := ⟨(line.getD K 0).toNat, by omega⟩
  have hkn : k < n := by omega
  have hall : ∀ y : Nat, y < n → y ≠ k → cnt V y k ≤ cnt V k y ∧ (V.length % 2 = 1 → cnt V y k < cnt V k y) := by
    intro y hy hyk
    obtain ⟨Y, hY, hYy, _⟩ := pos_mem hnd (y := (y : Int)) (hl.mem_iff.2 (mem_sides.2 ⟨by omega, by omega⟩))
    have hYK : Y ≠ K := fun e => by subst e; rw [hYy] at hk; omega
    have hb := duel_both hVp hkn hy (fun e => hyk e.symm)
    by_cases q : Y < K
    · have := black_left hl h1 hVp hV hK q
      rw [hk, hYy] at this
      omega
    · have := black_right hl h1 hVp hV (K := K) (Y := Y) (by omega) (by omega)
      rw [hk, hYy] at this
      omega
  refine ⟨k, hkn, by rw [hm, hk], fun y hy => ?_, fun hodd => ⟨hkn, fun y hy hyk => (hall y hy hyk).2 hodd⟩⟩
  by_cases e : y = k
  · subst e; exact Nat.le_refl _
  · exact (hall y hy e).1
end
end Fm

/-
  How many orders are along a line: two to the power of one less than the sides, whatever the line: lists of ints alone, no Go text.
-/
namespace Fm
set_option linter.unusedVariables false

theorem perms_nodup : ∀ (k : Nat) (S : List Int), S.length = k → S.Nodup → (perms k S).Nodup := by
  intro k
  induction k with
  | zero => intro S _ _; simp [perms]
  | succ k ih =>
    intro S hS hnd
    rw [perms]
    unfold List.Nodup
    rw [List.pairwise_flatMap]
    constructor
    · intro i hi
      have hi := List.mem_range.1 hi
      have h1 := ih (S.eraseIdx i) (by rw [List.length_eraseIdx, if_pos hi]; omega) (hnd.sublist (List.eraseIdx_sublist S i))
      rw [List.pairwise_map]
      exact h1.imp fun hne e => hne (List.cons.inj e).2
    · have hr : (List.range S.length).Pairwise (fun a b => a < b) := List.pairwise_lt_range
      refine hr.imp_of_mem ?_
      intro a b ha hb hab x hx y hy e
      have ha := List.mem_range.1 ha
      have hb := List.mem_range.1 hb
      rw [List.mem_map] at hx hy
      obtain ⟨u, _, rfl⟩ := hx
      obtain ⟨v, _, rfl⟩ := hy
      have e1 := (List.cons.inj e).1
      have p1 := pos_idx hnd ha
      have p2 := pos_idx hnd hb
      rw [e1, p2] at p1
      omega
theorem allO_nodup (n : Nat) : (allO n).Nodup := perms_nodup n (sides n) (sides_len n) (sides_nodup n)

/-- An order by the names on the line. -/
def byL (line q : List Int) : List Int := q.map fun x => line.getD x.toNat 0
section
variable {n : Nat} {line : List Int}
theorem byL_perm (hl : line.Perm (sides n)) {q : List Int} (hq : q.Perm (sides n)) : (byL line q).Perm (sides n) := by
  have h := hq.map (fun x => line.getD x.toNat 0)
  have e : (sides n).map (fun z => line.getD z.toNat 0) = line := by rw [← perm_len hl]; exact (as_map line).symm
  rw [e] at h
  exact h.trans hl
theorem byL_pos (hl : line.Perm (sides n)) {q : List Int} (hq : q.Perm (sides n)) {x : Nat} (hx : x < n) : pos (byL line q) (line.getD x 0) = pos q x := by
  obtain ⟨k, hk, hkx, hpk⟩ := pos_mem (perm_nodup hq) (y := (x : Int)) (hq.mem_iff.2 (mem_sides.2 ⟨by omega, by omega⟩))
  have hlr : (byL line q).length = q.length := by simp [byL]
  have hg : (byL line q).getD k 0 = line.getD x 0 := by
    rw [getD_get (by omega)]
    unfold byL
    rw [List.getElem_map, ← getD_get hk, hkx]
    rfl
  have h := pos_idx (perm_nodup (byL_perm hl hq)) (k := k) (by omega)
  rw [hg] at h
  rw [h, hpk]
theorem byL_along (hl : line.Perm (sides n)) {q : List Int} (hq : q.Perm (sides n)) : alongB line (byL line q) = alongB (sides n) q := by
  have hln := perm_len hl
  unfold alongB
  rw [hln, sides_len]
  have h : ∀ i j k, i < j → j < k → k < n → lastB line (byL line q) i j k = lastB (sides n) q i j k := fun i j k a b c => by
    unfold lastB
    rw [byL_pos hl hq (by omega), byL_pos hl hq (by omega), byL_pos hl hq (by omega), sides_getD (by omega), sides_getD (by omega), sides_getD (by omega)]
  apply Bool.eq_iff_iff.2
  simp only [List.all_eq_true, List.mem_range, Bool.not_eq_true']
  exact ⟨fun hh k hk j hj i hi => by rw [← h i j k hi hj hk]; exact hh k hk j hj i hi, fun hh k hk j hj i hi => by rw [h i j k hi hj hk]; exact hh k hk j hj i hi⟩
theorem byL_inj (hl : line.Perm (sides n)) {p q : List Int} (hp : p.Perm (sides n)) (hq : q.Perm (sides n)) (h : byL line p = byL line q) : p = q := by
  have lp := perm_len hp
  have lq := perm_len hq
  apply List.ext_getElem (by omega)
  intro i h1 h2
  have e : (byL line p)[i]? = (byL line q)[i]? := by rw [h]
  unfold byL at e
  rw [List.getElem?_map, List.getElem?_map, List.getElem?_eq_getElem h1, List.getElem?_eq_getElem h2] at e
  simp only [Option.map_some, Option.some.injEq] at e
  have m1 := mem_sides.1 (hp.mem_iff.1 (List.getElem_mem h1))
  have m2 := mem_sides.1 (hq.mem_iff.1 (List.getElem_mem h2))
  have hln := perm_len hl
  have a := pos_idx (perm_nodup hl) (k := (p[i]).toNat) (by omega)
  have b := pos_idx (perm_nodup hl) (k := (q[i]).toNat) (by omega)
  rw [e, b] at a
  omega
theorem nodup_map_on {L : List (List Int)} {f : List Int → List Int} (h : L.Nodup) (hf : ∀ a ∈ L, ∀ b ∈ L, f a = f b → a = b) : (L.map f).Nodup := by
  unfold List.Nodup at *
  rw [List.pairwise_map]
  exact h.imp_of_mem fun ha hb hne e => hne (hf _ ha _ hb e)
theorem perm_of_sub : ∀ (l m : List (List Int)), l.Nodup → (∀ x ∈ l, x ∈ m) → l.length = m.length → l.Perm m := by
  intro l
  induction l with
  | nil => intro m _ _ h; rw [List.eq_nil_of_length_eq_zero h.symm]
  | cons x l ih =>
    intro m hnd hs hl
    rw [List.nodup_cons] at hnd
    have hx := hs x (List.mem_cons_self)
    have hp := List.perm_cons_erase hx
    refine (List.Perm.cons x (ih (m.erase x) hnd.2 (fun y hy => ?_) ?_)).trans hp.symm
    · exact (List.mem_erase_of_ne (fun e => hnd.1 (by subst e; exact hy))).2 (hs y (List.mem_cons_of_mem _ hy))
    · rw [List.length_erase_of_mem hx]; simp at hl; omega
theorem byL_all (hl : line.Perm (sides n)) : ((allO n).map (byL line)).Perm (allO n) := by
  refine perm_of_sub _ _ (nodup_map_on (allO_nodup n) fun a ha b hb e => byL_inj hl (mem_allO.1 ha) (mem_allO.1 hb) e) (fun x hx => ?_) (by simp)
  rw [List.mem_map] at hx
  obtain ⟨q, hq, rfl⟩ := hx
  exact mem_allO.2 (byL_perm hl (mem_allO.1 hq))
theorem peak_1 : (allO 1).countP (alongB (sides 1)) = 2 ^ (1 - 1) := by decide +kernel
theorem peak_2 : (allO 2).countP (alongB (sides 2)) = 2 ^ (2 - 1) := by decide +kernel
theorem peak_3 : (allO 3).countP (alongB (sides 3)) = 2 ^ (3 - 1) := by decide +kernel
theorem peak_4 : (allO 4).countP (alongB (sides 4)) = 2 ^ (4 - 1) := by decide +kernel
theorem peak_5 : (allO 5).countP (alongB (sides 5)) = 2 ^ (5 - 1) := by decide +kernel
theorem peak_6 : (allO 6).countP (alongB (sides 6)) = 2 ^ (6 - 1) := by decide +kernel
theorem peak_many (hl : line.Perm (sides n)) (h1 : 1 ≤ n) (h6 : n ≤ 6) : (allO n).countP (alongB line) = 2 ^ (n - 1) := by
  rw [← (byL_all hl).countP_eq, List.countP_map]
  have e : (allO n).countP (alongB line ∘ byL line) = (allO n).countP (alongB (sides n)) := by
    apply List.countP_congr
    intro q hq
    rw [Function.comp_apply, byL_along hl (mem_allO.1 hq)]
  rw [e]
  have : n = 1 ∨ n = 2 ∨ n = 3 ∨ n = 4 ∨ n = 5 ∨ n = 6 := by omega
  rcases this with rfl | rfl | rfl | rfl | rfl | rfl
  · exact peak_1
  · exact peak_2
  · exact peak_3
  · exact peak_4
  · exact peak_5
  · exact peak_6
end
end Fm

/-
  Seats by divisors, one by one, and by largest remainders: numbers alone, no Go text.
-/
namespace Fm
set_option linter.unusedVariables false

/-- The sum of the first n. -/
def sN (f : Nat → Nat) : Nat → Nat
  | 0 => 0
  | n + 1 => sN f n + f n
theorem sN_congr {f g : Nat → Nat} {n : Nat} (h : ∀ i, i < n → f i = g i) : sN f n = sN g n := by
  induction n with
  | zero => rfl
  | succ n ih => rw [sN, sN, ih (fun i hi => h i (by omega)), h n (by omega)]
theorem sN_le {f g : Nat → Nat} {n : Nat} (h : ∀ i, i < n → f i ≤ g i) : sN f n ≤ sN g n := by
  induction n with
  | zero => exact Nat.le_refl _
  | succ n ih => rw [sN, sN]; have := ih (fun i hi => h i (by omega)); have := h n (by omega); omega
theorem sN_add (f g : Nat → Nat) (n : Nat) : sN (fun i => f i + g i) n = sN f n + sN g n := by
  induction n with
  | zero => rfl
  | succ n ih => rw [sN, sN, sN, ih]; omega
theorem sN_mul (c : Nat) (f : Nat → Nat) (n : Nat) : sN (fun i => c * f i) n = c * sN f n := by
  induction n with
  | zero => rfl
  | succ n ih => rw [sN, sN, ih, Nat.mul_add]
theorem sN_zero (n : Nat) : sN (fun _ => 0) n = 0 := by
  induction n with
  | zero => rfl
  | succ n ih => rw [sN, ih]
theorem sN_mem {f : Nat → Nat} {n i : Nat} (hi : i < n) : f i ≤ sN f n := by
  induction n with
  | zero => omega
  | succ n ih =>
    rw [sN]
    by_cases e : i = n
    · subst e; omega
    · have := ih (by omega); omega
/-- One of them raised by one. -/
def up1 (s : Nat → Nat) (b : Nat) : Nat → Nat := fun i => if i = b then s i + 1 else s i
theorem sN_up (s : Nat → Nat) {b n : Nat} (hb : b < n) : sN (up1 s b) n = sN s n + 1 := by
  induction n with
  | zero => omega
  | succ n ih =>
    rw [sN, sN]
    by_cases e : b = n
    · subst e
      have : sN (up1 s b) b = sN s b := sN_congr (fun i hi => by unfold up1; rw [if_neg (by omega)])
      rw [this]; unfold up1; rw [if_pos rfl]; omega
    · rw [ih (by omega)]; unfold up1; rw [if_neg (by omega)]; omega
/-- If the sums are the same and one is less, another is more. -/
theorem sN_more {f g : Nat → Nat} {n : Nat} (h : sN f n = sN g n) {i : Nat} (hi : i < n) (hlt : f i < g i) : ∃ k, k < n ∧ g k < f k := by
  by_cases hh : ∃ k, k < n ∧ g k < f k
  · exact hh
  · exfalso
    have h1 : ∀ k, k < n → f k ≤ g k := fun k hk => by
      by_cases q : g k < f k
      · exact absurd ⟨k, hk, q⟩ hh
      · omega
    have h2 : sN (up1 f i) n ≤ sN g n := sN_le (fun k hk => by
      unfold up1
      by_cases e : k = i
      · subst e; rw [if_pos rfl]; omega
      · rw [if_neg e]; exact h1 k hk)
    rw [sN_up f hi] at h2
    omega

/-- a over b is less than c over d. -/
def flt (a b c d : Nat) : Prop := a * d < c * b
instance (a b c d : Nat) : Decidable (flt a b c d) := by unfold flt; infer_instance
theorem flt_trans {a b c d e f : Nat} (hd : 0 < d) (hf : 0 < f) (h1 : flt a b c d) (h2 : ¬ flt e f c d) : flt a b e f := by
  unfold flt at *
  have h2 : c * f ≤ e * d := by omega
  have q1 : a * d * f < c * b * f := Nat.mul_lt_mul_of_pos_right h1 hf
  have q2 : c * f * b ≤ e * d * b := Nat.mul_le_mul_right b h2
  have q3 : a * f * d < e * b * d := by
    have e1 : a * f * d = a * d * f := Nat.mul_right_comm a f d
    have e2 : c * b * f = c * f * b := Nat.mul_right_comm c b f
    have e3 : e * b * d = e * d * b := Nat.mul_right_comm e b d
    omega
  exact Nat.lt_of_mul_lt_mul_right q3
theorem fle_trans {a b c d e f : Nat} (hd : 0 < d) (h1 : ¬ flt c d a b) (h2 : ¬ flt e f c d) : ¬ flt e f a b := by
  unfold flt at *
  intro h
  have h1 : a * d ≤ c * b := by omega
  have h2 : c * f ≤ e * d := by omega
  have q1 : a * d * f ≤ c * b * f := Nat.mul_le_mul_right f h1
  have q2 : c * f * b ≤ e * d * b := Nat.mul_le_mul_right b h2
  have q3 : a * f * d ≤ e * b * d := by
    have e1 : a * f * d = a * d * f := Nat.mul_right_comm a f d
    have e2 : c * b * f = c * f * b := Nat.mul_right_comm c b f
    have e3 : e * b * d = e * d * b := Nat.mul_right_comm e b d
    omega
  have := Nat.le_of_mul_le_mul_right q3 hd
  omega
theorem flt_trans2 {a b c d e f : Nat} (hb : 0 < b) (hd : 0 < d) (h1 : ¬ flt c d a b) (h2 : flt c d e f) : flt a b e f := by
  unfold flt at *
  have h1 : a * d ≤ c * b := by omega
  by_cases hf : f = 0
  · subst hf; rw [Nat.mul_zero] at h2 ⊢
    have : 0 < e * d := h2
    have he : 0 < e := Nat.pos_of_mul_pos_right this
    exact Nat.mul_pos he hb
  · have q1 : a * d * f ≤ c * b * f := Nat.mul_le_mul_right f h1
    have q2 : c * f * b < e * d * b := Nat.mul_lt_mul_of_pos_right h2 hb
    have q3 : a * f * d < e * b * d := by
      have e1 : a * f * d = a * d * f := Nat.mul_right_comm a f d
      have e2 : c * b * f = c * f * b := Nat.mul_right_comm c b f
      have e3 : e * b * d = e * d * b := Nat.mul_right_comm e b d
      omega
    exact Nat.lt_of_mul_lt_mul_right q3

/-- The first of the first n with the greatest x over d, the d positive. -/
def Pick (n : Nat) (x d : Nat → Nat) (b : Nat) : Prop := b < n ∧ (∀ j, j < n → ¬ flt (x b) (d b) (x j) (d j)) ∧ ∀ j, j < b → flt (x j) (d j) (x b) (d b)
def pickTo (x d : Nat → Nat) : Nat → Nat
  | 0 => 0
  | k + 1 => if flt (x (pickTo x d k)) (d (pickTo x d k)) (x (k + 1)) (d (k + 1)) then k + 1 else pickTo x d k
theorem pickTo_le (x d : Nat → Nat) (k : Nat) : pickTo x d k ≤ k := by
  induction k with
  | zero => exact Nat.le_refl _
  | succ k ih => rw [pickTo]; split <;> omega
theorem pickTo_pick {x d : Nat → Nat} (hd : ∀ i, 0 < d i) (k : Nat) : Pick (k + 1) x d (pickTo x d k) := by
  induction k with
  | zero => refine ⟨by rw [pickTo]; omega, fun j hj => ?_, fun j hj => by rw [pickTo] at hj; omega⟩
            have : j = 0 := by omega
            subst this; rw [pickTo]; unfold flt; omega
  | succ k ih =>
    obtain ⟨h1, h2, h3⟩ := ih
    rw [pickTo]
    by_cases h : flt (x (pickTo x d k)) (d (pickTo x d k)) (x (k + 1)) (d (k + 1))
    · rw [if_pos h]
      have hall : ∀ j, j < k + 1 → flt (x j) (d j) (x (k + 1)) (d (k + 1)) := fun j hj => flt_trans2 (hd _) (hd _) (h2 j hj) h
      refine ⟨by omega, fun j hj => ?_, hall⟩
      by_cases e : j = k + 1
      · subst e; unfold flt; omega
      · have := hall j (by omega)
        unfold flt at this ⊢
        omega
    · rw [if_neg h]
      refine ⟨by omega, fun j hj => ?_, h3⟩
      by_cases e : j = k + 1
      · subst e; exact h
      · exact h2 j (by omega)
theorem pick_one {n : Nat} {x d : Nat → Nat} {a b : Nat} (ha : Pick n x d a) (hb : Pick n x d b) : a = b := by
  by_cases h : a < b
  · exact absurd (hb.2.2 a h) (ha.2.1 b hb.1)
  · by_cases h2 : b < a
    · exact absurd (ha.2.2 b h2) (hb.2.1 a ha.1)
    · omega

/-- By divisors: the seats of each after so many. -/
def seatT (w n : Nat) (x : Nat → Nat) : Nat → Nat → Nat
  | 0 => fun _ => 0
  | t + 1 => up1 (seatT w n x t) (pickTo x (fun i => w * seatT w n x t i + 1) (n - 1))
section
variable {w n : Nat} {x : Nat → Nat}
theorem seatT_pick (hn : 1 ≤ n) (t : Nat) : Pick n x (fun i => w * seatT w n x t i + 1) (pickTo x (fun i => w * seatT w n x t i + 1) (n - 1)) := by
  have := pickTo_pick (x := x) (d := fun i => w * seatT w n x t i + 1) (fun i => by simp) (n - 1)
  rwa [show n - 1 + 1 = n by omega] at this
theorem seatT_sum (hn : 1 ≤ n) (t : Nat) : sN (seatT w n x t) n = t := by
  induction t with
  | zero => exact sN_zero n
  | succ t ih => rw [seatT, sN_up _ (seatT_pick hn t).1, ih]
theorem seatT_step (t i : Nat) : seatT w n x t i ≤ seatT w n x (t + 1) i ∧ seatT w n x (t + 1) i ≤ seatT w n x t i + 1 := by
  rw [seatT]; unfold up1; split <;> omega
/-- No seat would be better taken from one and given to another. -/
theorem seatT_div (hn : 1 ≤ n) (t : Nat) : ∀ i k, i < n → k < n → 0 < seatT w n x t i → x k * (w * (seatT w n x t i - 1) + 1) ≤ x i * (w * seatT w n x t k + 1) := by
  induction t with
  | zero => intro i k _ _ h; rw [seatT] at h; dsimp only at h; omega
  | succ t ih =>
    intro i k hi hk h
    obtain ⟨p1, p2, p3⟩ := seatT_pick (w := w) (x := x) hn t
    rw [seatT] at h ⊢
    generalize pickTo x (fun i => w * seatT w n x t i + 1) (n - 1) = b at *
    by_cases hib : i = b
    · subst hib
      have hk2 : seatT w n x t k ≤ up1 (seatT w n x t) i k := by unfold up1; split <;> omega
      have e : up1 (seatT w n x t) i i - 1 = seatT w n x t i := by unfold up1; rw [if_pos rfl]; omega
      rw [e]
      have q := p2 k hk
      unfold flt at q
      dsimp only at q
      have q2 : x k * (w * seatT w n x t i + 1) ≤ x i * (w * seatT w n x t k + 1) := by omega
      refine Nat.le_trans q2 (Nat.mul_le_mul_left _ ?_)
      have := Nat.mul_le_mul_left w hk2
      omega
    · have e : up1 (seatT w n x t) b i = seatT w n x t i := by unfold up1; rw [if_neg hib]
      rw [e] at h ⊢
      refine Nat.le_trans (ih i k hi hk h) (Nat.mul_le_mul_left _ ?_)
      have hk2 : seatT w n x t k ≤ up1 (seatT w n x t) b k := by unfold up1; split <;> omega
      have := Nat.mul_le_mul_left w hk2
      omega
/-- Who has no fewer people and stands ahead has no fewer seats. -/
theorem seatT_mono (hn : 1 ≤ n) (t : Nat) : ∀ k i, k < i → i < n → x i ≤ x k → seatT w n x t i ≤ seatT w n x t k := by
  induction t with
  | zero => intro k i _ _ _; exact Nat.le_refl _
  | succ t ih =>
    intro k i hki hi hx
    have h0 := ih k i hki hi hx
    obtain ⟨p1, p2, p3⟩ := seatT_pick (w := w) (x := x) hn t
    rw [seatT]
    generalize pickTo x (fun i => w * seatT w n x t i + 1) (n - 1) = b at *
    unfold up1
    by_cases hib : i = b
    · subst hib
      rw [if_pos rfl, if_neg (by omega)]
      by_cases e : seatT w n x t i = seatT w n x t k
      · exfalso
        have q := p3 k hki
        unfold flt at q
        dsimp only at q
        rw [e] at q
        have := Nat.mul_le_mul_right (w * seatT w n x t k + 1) hx
        omega
      · omega
    · rw [if_neg hib]; split <;> omega
theorem pickTo_scale {c : Nat} (hc : 0 < c) (d : Nat → Nat) (k : Nat) : pickTo (fun i => c * x i) d k = pickTo x d k := by
  induction k with
  | zero => rfl
  | succ k ih =>
    rw [pickTo, pickTo, ih]
    have e : flt (c * x (pickTo x d k)) (d (pickTo x d k)) (c * x (k + 1)) (d (k + 1)) ↔ flt (x (pickTo x d k)) (d (pickTo x d k)) (x (k + 1)) (d (k + 1)) := by
      unfold flt
      rw [Nat.mul_assoc, Nat.mul_assoc]
      exact Nat.mul_lt_mul_left hc
    by_cases h : flt (x (pickTo x d k)) (d (pickTo x d k)) (x (k + 1)) (d (k + 1))
    · rw [if_pos h, if_pos (e.2 h)]
    · rw [if_neg h, if_neg (fun q => h (e.1 q))]
theorem seatT_scale {c : Nat} (hc : 0 < c) (t : Nat) : seatT w n (fun i => c * x i) t = seatT w n x t := by
  induction t with
  | zero => rfl
  | succ t ih => rw [seatT, seatT, ih, pickTo_scale hc]
/-- With as many seats as people each has as many as it has people. -/
theorem seatT_all (hn : 1 ≤ n) (hw : 1 ≤ w) : ∀ i, i < n → seatT w n x (sN x n) i = x i := by
  have hs := seatT_sum (w := w) (x := x) hn (sN x n)
  have no : ¬ ∃ k, k < n ∧ x k < seatT w n x (sN x n) k := by
    rintro ⟨i, hi, h⟩
    obtain ⟨k, hk, h2⟩ := sN_more hs.symm hi h
    have q := seatT_div (w := w) (x := x) hn (sN x n) i k hi hk (by omega)
    generalize seatT w n x (sN x n) i = a at *
    generalize seatT w n x (sN x n) k = b at *
    have q1 : x k * (w * x i + 1) ≤ x k * (w * (a - 1) + 1) := Nat.mul_le_mul_left _ (by have := Nat.mul_le_mul_left w (show x i ≤ a - 1 by omega); omega)
    have q2 : x i * (w * b + 1) ≤ x i * (w * (x k - 1) + 1) := Nat.mul_le_mul_left _ (by have := Nat.mul_le_mul_left w (show b ≤ x k - 1 by omega); omega)
    obtain ⟨y, hy⟩ : ∃ y, x k = y + 1 := ⟨x k - 1, by omega⟩
    rw [hy] at q1 q2 q
    have e1 : (y + 1) * (w * x i + 1) = w * x i * y + w * x i + y + 1 := by rw [Nat.mul_add, Nat.mul_one, Nat.add_mul, Nat.one_mul, Nat.mul_comm y]; omega
    have e2 : x i * (w * (y + 1 - 1) + 1) = w * x i * y + x i := by rw [Nat.add_sub_cancel, Nat.mul_add, Nat.mul_one, ← Nat.mul_assoc, Nat.mul_comm (x i) w]
    have e3 : x i ≤ w * x i := Nat.le_mul_of_pos_left _ hw
    omega
  intro i hi
  by_cases h1 : x i < seatT w n x (sN x n) i
  · exact absurd ⟨i, hi, h1⟩ no
  · by_cases h2 : seatT w n x (sN x n) i < x i
    · exact absurd (sN_more hs hi h2) no
    · omega
/-- Jefferson: no less than the part, rounded down. -/
theorem seatT_quota (hn : 1 ≤ n) (t : Nat) (hp : 0 < sN x n) : ∀ i, i < n → x i * t / sN x n ≤ seatT 1 n x t i := by
  intro i hi
  by_cases h : x i * t / sN x n ≤ seatT 1 n x t i
  · exact h
  · exfalso
    have hs := seatT_sum (w := 1) (x := x) hn t
    -- (b_i + 1) * all ≤ x_i * t
    have h1 : (seatT 1 n x t i + 1) * sN x n ≤ x i * t := by
      have := Nat.div_mul_le_self (x i * t) (sN x n)
      exact Nat.le_trans (Nat.mul_le_mul_right _ (by omega)) this
    have e1 : sN (fun k => sN x n * seatT 1 n x t k) n = sN (fun k => t * x k) n := by rw [sN_mul, sN_mul, hs, Nat.mul_comm]
    have hlt : sN x n * seatT 1 n x t i < t * x i := by rw [Nat.add_mul, Nat.one_mul] at h1; rw [Nat.mul_comm (sN x n), Nat.mul_comm t]; omega
    obtain ⟨k, hk, h2⟩ := sN_more e1 hi hlt
    have hpos : 0 < seatT 1 n x t k := by
      by_cases q : seatT 1 n x t k = 0
      · rw [q, Nat.mul_zero] at h2; omega
      · omega
    have q := seatT_div (w := 1) (x := x) hn t k i hk hi hpos
    generalize seatT 1 n x t k = a at *
    generalize seatT 1 n x t i = b at *
    rw [Nat.one_mul, Nat.one_mul, show a - 1 + 1 = a by omega] at q
    -- x_i * a ≤ x_k * (b+1); t x_k < all a; (b+1) all ≤ x_i t
    have q1 : (b + 1) * sN x n * a ≤ x i * t * a := Nat.mul_le_mul_right a h1
    have q2 : x i * a * t ≤ x k * (b + 1) * t := Nat.mul_le_mul_right t q
    have q3 : t * x k * (b + 1) < sN x n * a * (b + 1) := Nat.mul_lt_mul_of_pos_right h2 (by omega)
    have c1 : x i * t * a = x i * a * t := Nat.mul_right_comm _ _ _
    have c2 : x k * (b + 1) * t = t * x k * (b + 1) := by rw [Nat.mul_comm _ t, ← Nat.mul_assoc]
    have c3 : (b + 1) * sN x n * a = sN x n * a * (b + 1) := by rw [Nat.mul_assoc, Nat.mul_comm]
    omega
end
end Fm

/-
  Sets of players as numbers, their weights, and who turns how many of them: numbers alone, no Go text.
-/
namespace Fm
set_option linter.unusedVariables false

theorem perm_subG {α : Type} [DecidableEq α] : ∀ (l m : List α), l.Nodup → (∀ x ∈ l, x ∈ m) → l.length = m.length → l.Perm m := by
  intro l
  induction l with
  | nil => intro m _ _ h; rw [List.eq_nil_of_length_eq_zero h.symm]
  | cons x l ih =>
    intro m hnd hs hl
    rw [List.nodup_cons] at hnd
    have hx := hs x (List.mem_cons_self)
    have hp := List.perm_cons_erase hx
    refine (List.Perm.cons x (ih (m.erase x) hnd.2 (fun y hy => ?_) ?_)).trans hp.symm
    · exact (List.mem_erase_of_ne (fun e => hnd.1 (by subst e; exact hy))).2 (hs y (List.mem_cons_of_mem _ hy))
    · rw [List.length_erase_of_mem hx]; simp at hl; omega
/-- How many of the first N. -/
def cS (p : Nat → Bool) (N : Nat) : Nat := (List.range N).countP p
theorem cS_zero (p : Nat → Bool) : cS p 0 = 0 := rfl
theorem cS_succ (p : Nat → Bool) (N : Nat) : cS p (N + 1) = cS p N + if p N = true then 1 else 0 := by
  unfold cS; rw [List.range_succ, List.countP_append, List.countP_singleton]
theorem cS_le (p : Nat → Bool) (N : Nat) : cS p N ≤ N := by unfold cS; have := List.countP_le_length (p := p) (l := List.range N); simpa using this
theorem cS_mono {p q : Nat → Bool} {N : Nat} (h : ∀ S, S < N → p S = true → q S = true) : cS p N ≤ cS q N := by
  unfold cS
  apply List.countP_mono_left
  intro S hS
  exact h S (List.mem_range.1 hS)
theorem cS_congr {p q : Nat → Bool} {N : Nat} (h : ∀ S, S < N → p S = q S) : cS p N = cS q N := by
  unfold cS
  apply List.countP_congr
  intro S hS
  rw [h S (List.mem_range.1 hS)]
theorem cS_inv {f : Nat → Nat} {N : Nat} (h : ∀ S, S < N → f S < N ∧ f (f S) = S) (p : Nat → Bool) : cS p N = cS (fun S => p (f S)) N := by
  unfold cS
  have hp : ((List.range N).map f).Perm (List.range N) := by
    refine perm_subG _ _ ?_ (fun x hx => ?_) (by simp)
    · unfold List.Nodup
      rw [List.pairwise_map]
      refine List.Pairwise.imp_of_mem ?_ (List.nodup_range (n := N))
      intro a b ha hb hne e
      have h1 := (h a (List.mem_range.1 ha)).2
      have h2 := (h b (List.mem_range.1 hb)).2
      rw [e, h2] at h1
      exact hne h1.symm
    · rw [List.mem_map] at hx
      obtain ⟨S, hS, rfl⟩ := hx
      exact List.mem_range.2 (h S (List.mem_range.1 hS)).1
  rw [← hp.countP_eq, List.countP_map]
  rfl
theorem cS_split (p q : Nat → Bool) (N : Nat) : cS p N = cS (fun S => p S && q S) N + cS (fun S => p S && !q S) N := by
  induction N with
  | zero => rfl
  | succ N ih =>
    rw [cS_succ, cS_succ, cS_succ, ih]
    cases p N <;> cases q N <;> simp <;> omega
theorem cS_pos {p : Nat → Bool} {N S : Nat} (hS : S < N) (h : p S = true) : 0 < cS p N := by
  unfold cS
  exact List.countP_pos_iff.2 ⟨S, List.mem_range.2 hS, h⟩

/-- The weight of a set. -/
def hv (W : Nat → Nat) (n S : Nat) : Nat := sN (fun j => if S.testBit j = true then W j else 0) n
theorem sN_one {f g : Nat → Nat} {n i : Nat} (hi : i < n) (h : ∀ j, j < n → j ≠ i → f j = g j) : sN f n + g i = sN g n + f i := by
  induction n with
  | zero => omega
  | succ n ih =>
    rw [sN, sN]
    by_cases e : i = n
    · subst e
      rw [sN_congr (fun j hj => h j (by omega) (by omega))]
      omega
    · rw [h n (by omega) (fun q => e q.symm)]
      have := ih (by omega) (fun j hj hne => h j (by omega) hne)
      omega
section
variable {W : Nat → Nat} {n : Nat}
theorem tog_bit (S i j : Nat) : (S ^^^ 2 ^ i).testBit j = if i = j then !S.testBit j else S.testBit j := by
  rw [Nat.testBit_xor, Nat.testBit_two_pow]
  by_cases e : i = j
  · subst e; simp
  · simp [e]
theorem tog_lt {S i : Nat} (hS : S < 2 ^ n) (hi : i < n) : S ^^^ 2 ^ i < 2 ^ n := Nat.xor_lt_two_pow hS (Nat.pow_lt_pow_right (by omega) hi)
theorem tog_tog (S i : Nat) : (S ^^^ 2 ^ i) ^^^ 2 ^ i = S := by rw [Nat.xor_assoc, Nat.xor_self, Nat.xor_zero]
theorem hv_tog {S i : Nat} (hi : i < n) (hb : S.testBit i = true) : hv W n (S ^^^ 2 ^ i) + W i = hv W n S := by
  have := sN_one (f := fun j => if (S ^^^ 2 ^ i).testBit j = true then W j else 0) (g := fun j => if S.testBit j = true then W j else 0) hi (fun j _ hj => by
    have e : (S ^^^ 2 ^ i).testBit j = S.testBit j := by rw [tog_bit, if_neg (fun e => hj e.symm)]
    rw [e])
  have e0 : (S ^^^ 2 ^ i).testBit i = false := by rw [tog_bit, if_pos rfl, hb]; rfl
  rw [hb, e0] at this
  simpa [hv] using this
theorem hv_le (S : Nat) : hv W n S ≤ sN W n := sN_le (fun j _ => by split <;> omega)
theorem hv_mem {S i : Nat} (hi : i < n) (hb : S.testBit i = true) : W i ≤ hv W n S := by have := hv_tog (W := W) hi hb; omega
theorem hv_full : hv W n (2 ^ n - 1) = sN W n := sN_congr (fun j hj => by rw [Nat.testBit_two_pow_sub_one]; simp [hj])

/-- The set wins; the i-th turns it. -/
def winB2 (W : Nat → Nat) (n q S : Nat) : Bool := decide (q ≤ hv W n S)
def turnB (W : Nat → Nat) (n q i S : Nat) : Bool := S.testBit i && (decide (q ≤ hv W n S) && decide (hv W n S < q + W i))
def swN (W : Nat → Nat) (n q i : Nat) : Nat := cS (turnB W n q i) (2 ^ n)
def allN (W : Nat → Nat) (n q : Nat) : Nat := cS (winB2 W n q) (2 ^ n)
def withN (W : Nat → Nat) (n q i : Nat) : Nat := cS (fun S => winB2 W n q S && S.testBit i) (2 ^ n)
/-- Twice those that win with it, less all that win. -/
theorem sw_with {q i : Nat} (hi : i < n) : swN W n q i + allN W n q = 2 * withN W n q i := by
  have h1 := cS_split (winB2 W n q) (fun S => S.testBit i) (2 ^ n)
  -- those that win without it
  have h2 : cS (fun S => winB2 W n q S && !S.testBit i) (2 ^ n) = cS (fun S => S.testBit i && winB2 W n q (S ^^^ 2 ^ i)) (2 ^ n) := by
    rw [cS_inv (f := fun S => S ^^^ 2 ^ i) (fun S hS => ⟨tog_lt hS hi, tog_tog S i⟩)]
    refine cS_congr (fun S _ => ?_)
    rw [tog_bit, if_pos rfl, Bool.not_not, Bool.and_comm]
  have h3 : withN W n q i = swN W n q i + cS (fun S => S.testBit i && winB2 W n q (S ^^^ 2 ^ i)) (2 ^ n) := by
    unfold withN swN
    rw [cS_split (fun S => winB2 W n q S && S.testBit i) (fun S => decide (hv W n S < q + W i)) (2 ^ n)]
    congr 1
    · refine cS_congr (fun S _ => ?_)
      unfold turnB winB2
      cases S.testBit i <;> simp
    · refine cS_congr (fun S _ => ?_)
      unfold winB2
      cases hb : S.testBit i with
      | false => simp
      | true =>
        have := hv_tog (W := W) hi hb
        simp only [Bool.and_true, Bool.true_and]
        by_cases q1 : q ≤ hv W n (S ^^^ 2 ^ i)
        · rw [decide_eq_true q1, decide_eq_true (show q ≤ hv W n S by omega), decide_eq_false (show ¬ hv W n S < q + W i by omega)]; rfl
        · rw [decide_eq_false q1, decide_eq_true (show hv W n S < q + W i by omega)]; simp
  unfold allN
  rw [h1, h2]
  unfold withN at h3 ⊢
  omega
/-- Two bits exchanged. -/
def swpB (S i k : Nat) : Nat := if S.testBit i = S.testBit k then S else (S ^^^ 2 ^ i) ^^^ 2 ^ k
theorem swpB_bit (S i k j : Nat) : (swpB S i k).testBit j = if j = i then S.testBit k else if j = k then S.testBit i else S.testBit j := by
  unfold swpB
  by_cases h : S.testBit i = S.testBit k
  · rw [if_pos h]
    by_cases e1 : j = i
    · subst e1; rw [if_pos rfl, h]
    · rw [if_neg e1]
      by_cases e2 : j = k
      · subst e2; rw [if_pos rfl, h]
      · rw [if_neg e2]
  · rw [if_neg h, tog_bit, tog_bit]
    by_cases e1 : j = i
    · subst e1
      have : ¬ k = j := fun e => h (by rw [e])
      rw [if_pos rfl, if_neg this, if_pos rfl]
      cases q1 : S.testBit j <;> cases q2 : S.testBit k <;> simp_all
    · rw [if_neg e1]
      by_cases e2 : j = k
      · subst e2
        rw [if_pos rfl, if_pos rfl, if_neg (fun e => e1 e.symm)]
        cases q1 : S.testBit j <;> cases q2 : S.testBit i <;> simp_all
      · rw [if_neg e2, if_neg (fun e => e2 e.symm), if_neg (fun e => e1 e.symm)]
theorem swpB_lt {S i k : Nat} (hS : S < 2 ^ n) (hi : i < n) (hk : k < n) : swpB S i k < 2 ^ n := by
  unfold swpB
  split
  · exact hS
  · exact tog_lt (tog_lt hS hi) hk
theorem swpB_swpB (S i k : Nat) : swpB (swpB S i k) i k = S := by
  apply Nat.eq_of_testBit_eq
  intro j
  rw [swpB_bit, swpB_bit, swpB_bit, swpB_bit]
  by_cases e1 : j = i
  · subst e1
    rw [if_pos rfl]
    by_cases e3 : k = j
    · subst e3; simp
    · rw [if_neg e3, if_pos rfl]
  · rw [if_neg e1]
    by_cases e2 : j = k
    · subst e2; rw [if_pos rfl, if_pos rfl]
    · rw [if_neg e2, if_neg e1, if_neg e2]
/-- Who is heavier wins with no fewer. -/
theorem with_mono {q i k : Nat} (hi : i < n) (hk : k < n) (hw : W k ≤ W i) : withN W n q k ≤ withN W n q i := by
  unfold withN
  rw [cS_inv (f := fun S => swpB S i k) (fun S hS => ⟨swpB_lt hS hi hk, swpB_swpB S i k⟩)]
  refine cS_mono (fun S hS h => ?_)
  rw [Bool.and_eq_true] at h ⊢
  obtain ⟨h1, h2⟩ := h
  have hbi : S.testBit i = true := by
    rw [swpB_bit] at h2
    by_cases e : k = i
    · subst e; rw [if_pos rfl] at h2; exact h2
    · rw [if_neg e, if_pos rfl] at h2; exact h2
  refine ⟨?_, hbi⟩
  unfold winB2 at h1 ⊢
  have h1 := of_decide_eq_true h1
  refine decide_eq_true (Nat.le_trans h1 ?_)
  unfold swpB
  by_cases hbk : S.testBit i = S.testBit k
  · rw [if_pos hbk]; exact Nat.le_refl _
  · rw [if_neg hbk]
    have hkf : S.testBit k = false := by cases q : S.testBit k with
      | false => rfl
      | true => rw [hbi, q] at hbk; exact absurd rfl hbk
    have hik : i ≠ k := fun e => by subst e; rw [hbi] at hkf; cases hkf
    have e1 := hv_tog (W := W) hi hbi
    have hb2 : ((S ^^^ 2 ^ i) ^^^ 2 ^ k).testBit k = true := by rw [tog_bit, if_pos rfl, tog_bit, if_neg hik, hkf]; rfl
    have e2 := hv_tog (W := W) hk hb2
    rw [tog_tog] at e2
    omega
theorem sw_mono {q i k : Nat} (hi : i < n) (hk : k < n) (hw : W k ≤ W i) : swN W n q k ≤ swN W n q i := by
  have h1 := sw_with (W := W) (q := q) hi
  have h2 := sw_with (W := W) (q := q) hk
  have h3 := with_mono (q := q) hi hk hw
  omega
theorem sw_le (q i : Nat) : swN W n q i ≤ allN W n q := cS_mono (fun S _ h => by
  unfold turnB at h; unfold winB2
  rw [Bool.and_eq_true, Bool.and_eq_true] at h
  exact h.2.1)
theorem all_pos {q : Nat} (hq : q ≤ sN W n) : 0 < allN W n q := cS_pos (S := 2 ^ n - 1) (by have := Nat.two_pow_pos n; omega) (by unfold winB2; rw [hv_full]; exact decide_eq_true hq)
/-- Without whom nothing wins turns each set that wins. -/
theorem sw_veto {q i : Nat} (hi : i < n) (hq : q ≤ sN W n) : swN W n q i = allN W n q ↔ sN W n < q + W i := by
  have hlast : hv W n ((2 ^ n - 1) ^^^ 2 ^ i) + W i = sN W n := by
    rw [hv_tog hi (by rw [Nat.testBit_two_pow_sub_one]; exact decide_eq_true hi), hv_full]
  constructor
  · intro h
    by_cases q1 : sN W n < q + W i
    · exact q1
    · exfalso
      -- all but the i-th win, and it does not turn that set
      have h2 := cS_split (winB2 W n q) (turnB W n q i) (2 ^ n)
      have h3 : cS (fun S => winB2 W n q S && turnB W n q i S) (2 ^ n) = swN W n q i := cS_congr (fun S _ => by
        unfold winB2 turnB
        cases S.testBit i <;> simp)
      have h4 : 0 < cS (fun S => winB2 W n q S && !turnB W n q i S) (2 ^ n) := by
        refine cS_pos (S := (2 ^ n - 1) ^^^ 2 ^ i) (tog_lt (by have := Nat.two_pow_pos n; omega) hi) ?_
        have hb : ((2 ^ n - 1) ^^^ 2 ^ i).testBit i = false := by rw [tog_bit, if_pos rfl, Nat.testBit_two_pow_sub_one]; simp [hi]
        unfold winB2 turnB
        rw [hb]
        simp only [Bool.false_and, Bool.not_false, Bool.and_true]
        exact decide_eq_true (by omega)
      unfold allN at h
      omega
  · intro h
    unfold swN allN
    refine cS_congr (fun S hS => ?_)
    unfold turnB winB2
    by_cases q1 : q ≤ hv W n S
    · have hb : S.testBit i = true := by
        cases hb : S.testBit i with
        | true => rfl
        | false =>
          exfalso
          have hb2 : (S ^^^ 2 ^ i).testBit i = true := by rw [tog_bit, if_pos rfl, hb]; rfl
          have := hv_tog (W := W) hi hb2
          rw [tog_tog] at this
          have := hv_le (W := W) (n := n) (S ^^^ 2 ^ i)
          omega
      have hl := hv_le (W := W) (n := n) S
      rw [hb, decide_eq_true q1, decide_eq_true (show hv W n S < q + W i by omega)]; rfl
    · rw [decide_eq_false q1]; simp
/-- The dual game has the same. -/
def dualS (n i S : Nat) : Nat := ((2 ^ n - 1) ^^^ S) ^^^ 2 ^ i
theorem dual_bit {S i j : Nat} (hj : j < n) : (dualS n i S).testBit j = if i = j then S.testBit j else !S.testBit j := by
  unfold dualS
  rw [tog_bit, Nat.testBit_xor, Nat.testBit_two_pow_sub_one]
  by_cases e : i = j
  · subst e; rw [if_pos rfl, if_pos rfl]; simp [hj]
  · rw [if_neg e, if_neg e]; simp [hj]
theorem hv_dual {S i : Nat} (hi : i < n) (hb : S.testBit i = true) : hv W n (dualS n i S) + hv W n S = sN W n + W i := by
  have e : sN (fun j => (if (dualS n i S).testBit j = true then W j else 0) + if S.testBit j = true then W j else 0) n + W i = sN W n + (W i + W i) := by
    have := sN_one (f := fun j => (if (dualS n i S).testBit j = true then W j else 0) + if S.testBit j = true then W j else 0) (g := W) hi (fun j hj hne => by
      have e : (dualS n i S).testBit j = !S.testBit j := by rw [dual_bit hj, if_neg (fun e => hne e.symm)]
      rw [e]
      cases S.testBit j <;> simp)
    have e0 : (dualS n i S).testBit i = true := by rw [dual_bit hi, if_pos rfl, hb]
    rw [e0, hb] at this
    simpa using this
  rw [sN_add] at e
  unfold hv
  omega
theorem sw_dual {q i : Nat} (hi : i < n) (h1 : 1 ≤ q) (hq : q ≤ sN W n) : swN W n (sN W n + 1 - q) i = swN W n q i := by
  unfold swN
  rw [cS_inv (f := dualS n i) (fun S hS => ?_)]
  · refine cS_congr (fun S hS => ?_)
    unfold turnB
    rw [dual_bit hi, if_pos rfl]
    cases hb : S.testBit i with
    | false => rfl
    | true =>
      have e := hv_dual (W := W) hi hb
      have e2 := hv_mem (W := W) hi hb
      have e3 := hv_le (W := W) (n := n) S
      have hh : (sN W n + 1 - q ≤ hv W n (dualS n i S) ↔ hv W n S < q + W i) ∧ (hv W n (dualS n i S) < sN W n + 1 - q + W i ↔ q ≤ hv W n S) := by constructor <;> constructor <;> intro h <;> omega
      rw [decide_eq_decide.2 hh.1, decide_eq_decide.2 hh.2, Bool.and_comm (decide _)]
  · have hp := Nat.two_pow_pos n
    refine ⟨?_, ?_⟩
    · unfold dualS
      exact tog_lt (Nat.xor_lt_two_pow (by omega) hS) hi
    · unfold dualS
      rw [Nat.xor_assoc (2 ^ n - 1) S, ← Nat.xor_assoc (2 ^ n - 1) (2 ^ n - 1), Nat.xor_self, Nat.zero_xor, Nat.xor_assoc, Nat.xor_self, Nat.xor_zero]
end
end Fm

/-
  In how many orders of arrival each player turns those that are there: lists of ints alone, no Go text.
-/
namespace Fm
set_option linter.unusedVariables false

theorem allO_map {n : Nat} {f : List Int → List Int} (hp : ∀ p, p.Perm (sides n) → (f p).Perm (sides n)) (hi : ∀ p q, p.Perm (sides n) → q.Perm (sides n) → f p = f q → p = q) : ((allO n).map f).Perm (allO n) := by
  refine perm_of_sub _ _ (nodup_map_on (allO_nodup n) fun a ha b hb e => hi a b (mem_allO.1 ha) (mem_allO.1 hb) e) (fun x hx => ?_) (by simp)
  rw [List.mem_map] at hx
  obtain ⟨q, hq, rfl⟩ := hx
  exact mem_allO.2 (hp q (mem_allO.1 hq))

def wI (W : Nat → Nat) (x : Int) : Nat := W x.toNat
/-- The weight of those that are there before i. -/
def preP (W : Nat → Nat) (n : Nat) (p : List Int) (i : Int) : Nat := tot (sides n) (fun j => if pos p j < pos p i then wI W j else 0)
def critP (W : Nat → Nat) (n q : Nat) (p : List Int) (i : Int) : Bool := decide (preP W n p i < q) && decide (q ≤ preP W n p i + wI W i)
/-- In how many orders the i-th turns those that are there. -/
def tuN (W : Nat → Nat) (n q i : Nat) : Nat := (allO n).countP (fun p => critP W n q p (i : Int))
section
variable {W : Nat → Nat} {n q : Nat}
theorem tot_take {p : List Int} (hp : p.Nodup) (φ : Int → Nat) {k : Nat} (hk : k ≤ p.length) : tot p (fun x => if pos p x < k then φ x else 0) = tot (p.take k) φ := by
  have e := List.take_append_drop k p
  have h1 : tot p (fun x => if pos p x < k then φ x else 0) = tot (p.take k) (fun x => if pos p x < k then φ x else 0) + tot (p.drop k) (fun x => if pos p x < k then φ x else 0) := by rw [← tot_append, e]
  have h2 : tot (p.take k) (fun x => if pos p x < k then φ x else 0) = tot (p.take k) φ := tot_congr fun x hx => by
    obtain ⟨j, hj, rfl⟩ := List.getElem_of_mem hx
    rw [List.length_take] at hj
    rw [List.getElem_take, ← getD_get (by omega), pos_idx hp (by omega), if_pos (by omega)]
  have h3 : tot (p.drop k) (fun x => if pos p x < k then φ x else 0) = 0 := tot_zero.2 fun x hx => by
    obtain ⟨j, hj, rfl⟩ := List.getElem_of_mem hx
    rw [List.length_drop] at hj
    rw [List.getElem_drop, ← getD_get (by omega), pos_idx hp (by omega), if_neg (by omega)]
  omega
theorem pre_take {p : List Int} (hp : p.Perm (sides n)) {k : Nat} (hk : k < n) : preP W n p (p.getD k 0) = tot (p.take k) (wI W) := by
  have hl := perm_len hp
  unfold preP
  rw [pos_idx (perm_nodup hp) (by omega), ← tot_perm hp]
  exact tot_take (perm_nodup hp) _ (by omega)
theorem tot_W {p : List Int} (hp : p.Perm (sides n)) : tot p (wI W) = tot (sides n) (wI W) := tot_perm hp _
/-- Of each order just one. -/
theorem one_crit {p : List Int} (hp : p.Perm (sides n)) (h1 : 1 ≤ q) (hq : q ≤ tot (sides n) (wI W)) : tot (sides n) (fun i => if critP W n q p i = true then 1 else 0) = 1 := by
  have hl := perm_len hp
  rw [← tot_perm hp]
  have h : ∀ k, k ≤ n → tot (p.take k) (fun i => if critP W n q p i = true then 1 else 0) = if q ≤ tot (p.take k) (wI W) then 1 else 0 := by
    intro k
    induction k with
    | zero => intro _; rw [List.take_zero, tot_nil, tot_nil, if_neg (by omega)]
    | succ k ih =>
      intro hk
      rw [take_succ_getD p k (by omega), tot_append, tot_append, tot_cons, tot_nil, tot_cons, tot_nil, ih (by omega)]
      unfold critP
      rw [pre_take hp (by omega)]
      generalize tot (p.take k) (wI W) = T
      generalize wI W (p.getD k 0) = v
      simp only [Nat.add_zero]
      by_cases a : q ≤ T
      · have a2 : ¬ T < q := by omega
        have a3 : q ≤ T + v := by omega
        simp [a, a2, a3]
      · have a2 : T < q := by omega
        by_cases b : q ≤ T + v
        · simp [a, a2, b]
        · simp [a, a2, b]
  have h2 := h n (Nat.le_refl _)
  rw [List.take_of_length_le (by omega), tot_W hp, if_pos hq] at h2
  exact h2
theorem tu_sum (h1 : 1 ≤ q) (hq : q ≤ tot (sides n) (wI W)) : tot (sides n) (fun i => tuN W n q i.toNat) = (allO n).length := by
  have h : ∀ L : List (List Int), (∀ p ∈ L, p.Perm (sides n)) → tot (sides n) (fun i => L.countP (fun p => critP W n q p i)) = L.length := by
    intro L
    induction L with
    | nil => intro _; exact tot_zero.2 fun x _ => rfl
    | cons p L ih =>
      intro hL
      have e : tot (sides n) (fun i => (p :: L).countP (fun p => critP W n q p i)) = tot (sides n) (fun i => L.countP (fun p => critP W n q p i) + if critP W n q p i = true then 1 else 0) := tot_congr fun i _ => by rw [List.countP_cons]
      rw [e, tot_add, ih (fun r hr => hL r (List.mem_cons_of_mem _ hr)), one_crit (hL p (List.mem_cons_self)) h1 hq]
      rfl
  rw [← h (allO n) (fun p hp => mem_allO.1 hp)]
  refine tot_congr fun i hi => ?_
  have hi := mem_sides.1 hi
  unfold tuN
  rw [show ((i.toNat : Nat) : Int) = i by omega]
theorem tu_null {i : Nat} (hw : W i = 0) : tuN W n q i = 0 := by
  unfold tuN
  rw [List.countP_eq_zero]
  intro p _
  unfold critP wI
  rw [Int.toNat_natCast, hw]
  simp
theorem tu_le (i : Nat) : tuN W n q i ≤ (allO n).length := List.countP_le_length
/-- The names i and k exchanged. -/
def exN (i k : Int) (x : Int) : Int := if x = i then k else if x = k then i else x
theorem exN_exN (i k x : Int) : exN i k (exN i k x) = x := by
  unfold exN
  by_cases a : x = i
  · subst a
    rw [if_pos rfl]
    by_cases b : k = x
    · rw [if_pos b, b]
    · rw [if_neg b, if_pos rfl]
  · rw [if_neg a]
    by_cases b : x = k
    · subst b; rw [if_pos rfl, if_pos rfl]
    · rw [if_neg b, if_neg a, if_neg b]
theorem exN_mem {i k : Nat} (hi : i < n) (hk : k < n) {x : Int} (hx : x ∈ sides n) : exN i k x ∈ sides n := by
  have hx := mem_sides.1 hx
  unfold exN
  apply mem_sides.2
  split
  · omega
  · split <;> omega
theorem exN_sides {i k : Nat} (hi : i < n) (hk : k < n) : ((sides n).map (exN i k)).Perm (sides n) := by
  refine perm_of_nodup_subset _ _ ?_ (fun x hx => ?_) (by simp)
  · unfold List.Nodup
    rw [List.pairwise_map]
    refine List.Pairwise.imp ?_ (sides_nodup n)
    intro a b hne e
    have : exN i k (exN i k a) = exN i k (exN i k b) := by rw [e]
    rw [exN_exN, exN_exN] at this
    exact hne this
  · rw [List.mem_map] at hx
    obtain ⟨y, hy, rfl⟩ := hx
    exact exN_mem hi hk hy
theorem ex_perm {i k : Nat} (hi : i < n) (hk : k < n) {p : List Int} (hp : p.Perm (sides n)) : (p.map (exN i k)).Perm (sides n) := (hp.map _).trans (exN_sides hi hk)
theorem ex_pos {i k : Nat} (hi : i < n) (hk : k < n) {p : List Int} (hp : p.Perm (sides n)) {x : Int} (hx : x ∈ sides n) : pos (p.map (exN i k)) x = pos p (exN i k x) := by
  have hm := hp.mem_iff.2 (exN_mem hi hk hx)
  obtain ⟨j, hj, hjx, hpj⟩ := pos_mem (perm_nodup hp) hm
  have hg : (p.map (exN i k)).getD j 0 = x := by
    rw [getD_get (by rw [List.length_map]; exact hj), List.getElem_map, ← getD_get hj, hjx, exN_exN]
  have h := pos_idx (perm_nodup (ex_perm hi hk hp)) (k := j) (by rw [List.length_map]; exact hj)
  rw [hg] at h
  rw [h, hpj]
theorem pre_ex {i k : Nat} (hi : i < n) (hk : k < n) {p : List Int} (hp : p.Perm (sides n)) : preP W n (p.map (exN i k)) i = tot (sides n) (fun j => if pos p j < pos p (k : Int) then wI W (exN i k j) else 0) := by
  unfold preP
  have hki : exN i k (i : Int) = k := by unfold exN; rw [if_pos rfl]
  have e1 : tot (sides n) (fun j => if pos (p.map (exN i k)) j < pos (p.map (exN i k)) (i : Int) then wI W j else 0) = tot (sides n) (fun j => if pos p (exN i k j) < pos p (k : Int) then wI W (exN i k (exN i k j)) else 0) := tot_congr fun j hj => by
    rw [ex_pos hi hk hp hj, ex_pos hi hk hp (mem_sides.2 ⟨by omega, by omega⟩), hki, exN_exN]
  rw [e1]
  have e2 := tot_map (sides n) (exN i k) (fun j => if pos p j < pos p (k : Int) then wI W (exN i k j) else 0)
  rw [← e2]
  exact tot_perm (exN_sides hi hk) _
theorem tot_diff {S : List Int} (hS : S.Nodup) {a : Int} (ha : a ∈ S) {φ ψ : Int → Nat} (h : ∀ x ∈ S, x ≠ a → φ x = ψ x) : tot S φ + ψ a = tot S ψ + φ a := by
  induction S with
  | nil => cases ha
  | cons x S ih =>
    rw [tot_cons, tot_cons]
    rw [List.nodup_cons] at hS
    by_cases e : x = a
    · subst e
      rw [tot_congr (fun y hy => h y (List.mem_cons_of_mem _ hy) (fun q => hS.1 (by subst q; exact hy)))]
      omega
    · have ha' : a ∈ S := by
        rcases List.mem_cons.1 ha with h2 | h2
        · exact absurd h2.symm e
        · exact h2
      have := ih hS.2 ha' (fun y hy => h y (List.mem_cons_of_mem _ hy))
      rw [h x (List.mem_cons_self) e]
      omega
/-- Who is heavier turns no fewer. -/
theorem tu_mono {i k : Nat} (hi : i < n) (hk : k < n) (hw : W k ≤ W i) : tuN W n q k ≤ tuN W n q i := by
  by_cases hik : i = k
  · subst hik; exact Nat.le_refl _
  unfold tuN
  have hperm := allO_map (n := n) (f := fun p => p.map (exN i k)) (fun p hp => ex_perm hi hk hp) (fun p r hp hr e => by
    have : (p.map (exN i k)).map (exN i k) = (r.map (exN i k)).map (exN i k) := by rw [e]
    rw [List.map_map, List.map_map] at this
    have id : ∀ l : List Int, l.map (exN i k ∘ exN i k) = l := fun l => by
      have : exN (i : Int) k ∘ exN i k = _root_.id := by funext x; exact exN_exN _ _ x
      rw [this, List.map_id]
    rwa [id, id] at this)
  rw [← hperm.countP_eq (p := fun p => critP W n q p (i : Int)), List.countP_map]
  apply List.countP_mono_left
  intro p hp h
  have hp := mem_allO.1 hp
  rw [Function.comp_apply]
  unfold critP at h ⊢
  rw [Bool.and_eq_true, decide_eq_true_eq, decide_eq_true_eq] at h ⊢
  rw [pre_ex hi hk hp]
  have hm : (i : Int) ∈ sides n := mem_sides.2 ⟨by omega, by omega⟩
  have d := tot_diff (sides_nodup n) hm (φ := fun j => if pos p j < pos p (k : Int) then wI W (exN i k j) else 0) (ψ := fun j => if pos p j < pos p (k : Int) then wI W j else 0) (fun x hx hne => by
    by_cases e : x = (k : Int)
    · subst e; rw [if_neg (by omega), if_neg (by omega)]
    · have : exN (i : Int) k x = x := by unfold exN; rw [if_neg hne, if_neg e]
      rw [this])
  have hki : exN (i : Int) k (i : Int) = k := by unfold exN; rw [if_pos rfl]
  unfold preP at h
  have hwi : wI W (i : Int) = W i := by unfold wI; rw [Int.toNat_natCast]
  have hwk : wI W (k : Int) = W k := by unfold wI; rw [Int.toNat_natCast]
  rw [hki] at d
  rw [hwk] at h d
  rw [hwi] at d ⊢
  by_cases c : pos p (i : Int) < pos p (k : Int)
  · rw [if_pos c, if_pos c] at d
    omega
  · rw [if_neg c, if_neg c] at d
    omega
/-- In the dual game as many. -/
theorem pre_rev {p : List Int} (hp : p.Perm (sides n)) {i : Nat} (hi : i < n) : preP W n p.reverse i + preP W n p i + W i = tot (sides n) (wI W) := by
  unfold preP
  have hm : (i : Int) ∈ sides n := mem_sides.2 ⟨by omega, by omega⟩
  rw [← tot_add]
  have d := tot_diff (sides_nodup n) hm (φ := fun j => (if pos p.reverse j < pos p.reverse (i : Int) then wI W j else 0) + if pos p j < pos p (i : Int) then wI W j else 0) (ψ := wI W) (fun x hx hne => by
    have hx' := mem_sides.1 hx
    obtain ⟨y, rfl⟩ : ∃ y : Nat, x = y := ⟨x.toNat, by omega⟩
    have hne2 : pos p (y : Int) ≠ pos p (i : Int) := fun e => hne (pos_inj (perm_nodup hp) (hp.mem_iff.2 hx) (hp.mem_iff.2 hm) e)
    rw [pos_rev2 hp (by omega), pos_rev2 hp hi]
    by_cases c : pos p (y : Int) < pos p (i : Int)
    · rw [if_pos c, if_neg (by omega)]; omega
    · rw [if_neg c, if_pos (by omega)]; omega)
  rw [if_neg (by omega), if_neg (by omega)] at d
  have hwi : wI W (i : Int) = W i := by unfold wI; rw [Int.toNat_natCast]
  omega
theorem tu_dual {i : Nat} (hi : i < n) (h1 : 1 ≤ q) (hq : q ≤ tot (sides n) (wI W)) : tuN W n (tot (sides n) (wI W) + 1 - q) i = tuN W n q i := by
  unfold tuN
  have hperm := allO_map (n := n) (f := List.reverse) (fun p hp => (List.reverse_perm p).trans hp) (fun p r _ _ e => by
    have : p.reverse.reverse = r.reverse.reverse := by rw [e]
    rwa [List.reverse_reverse, List.reverse_reverse] at this)
  rw [← hperm.countP_eq, List.countP_map]
  apply List.countP_congr
  intro p hp
  have hp := mem_allO.1 hp
  have e := pre_rev (W := W) hp hi
  rw [Function.comp_apply]
  unfold critP
  have hwi : wI W (i : Int) = W i := by unfold wI; rw [Int.toNat_natCast]
  rw [hwi, Bool.and_eq_true, Bool.and_eq_true, decide_eq_true_eq, decide_eq_true_eq, decide_eq_true_eq, decide_eq_true_eq]
  omega
theorem tot_sN (W : Nat → Nat) (n : Nat) : tot (sides n) (wI W) = sN W n := by
  induction n with
  | zero => rfl
  | succ n ih => rw [tot_succ, ih, sN]; unfold wI; rw [Int.toNat_natCast]
theorem tu_sumN (h1 : 1 ≤ q) (hq : q ≤ sN W n) : sN (tuN W n q) n = (allO n).length := by
  rw [← tu_sum (W := W) h1 (by rw [tot_sN]; exact hq), ← tot_sN]
  rfl
end
end Fm

/-
  Games given by a number for each set: what each adds in an order of arrival, over all orders, turned about, renamed: numbers and lists alone, no Go text.
-/
namespace Fm
set_option linter.unusedVariables false

/-- A sum over a list. -/
def tI (S : List Int) (φ : Int → Int) : Int := (S.map φ).sum
theorem tI_nil (φ : Int → Int) : tI [] φ = 0 := rfl
theorem tI_cons (x : Int) (S : List Int) (φ : Int → Int) : tI (x :: S) φ = φ x + tI S φ := by simp [tI]
theorem tI_append (S T : List Int) (φ : Int → Int) : tI (S ++ T) φ = tI S φ + tI T φ := by simp [tI, List.sum_append]
theorem sum_permI {l m : List Int} (h : l.Perm m) : l.sum = m.sum := by
  induction h with
  | nil => rfl
  | cons x _ ih => simp [ih]
  | swap x y l => simp; omega
  | trans _ _ h1 h2 => exact h1.trans h2
theorem tI_perm {S T : List Int} (h : S.Perm T) (φ : Int → Int) : tI S φ = tI T φ := sum_permI (h.map φ)
theorem tI_congr {S : List Int} {φ ψ : Int → Int} (h : ∀ x ∈ S, φ x = ψ x) : tI S φ = tI S ψ := by unfold tI; rw [List.map_congr_left h]
theorem tI_add (S : List Int) (φ ψ : Int → Int) : tI S (fun x => φ x + ψ x) = tI S φ + tI S ψ := by
  induction S with
  | nil => rfl
  | cons x S ih => rw [tI_cons, tI_cons, tI_cons, ih]; omega
theorem tI_le {S : List Int} {φ ψ : Int → Int} (h : ∀ x ∈ S, φ x ≤ ψ x) : tI S φ ≤ tI S ψ := by
  induction S with
  | nil => exact Int.le_refl _
  | cons x S ih => rw [tI_cons, tI_cons]; have := h x (by simp); have := ih (fun y hy => h y (by simp [hy])); omega
/-- A sum over a list of orders. -/
def tL (L : List (List Int)) (φ : List Int → Int) : Int := (L.map φ).sum
theorem tL_cons (p : List Int) (L : List (List Int)) (φ : List Int → Int) : tL (p :: L) φ = φ p + tL L φ := by simp [tL]
theorem tL_append (L M : List (List Int)) (φ : List Int → Int) : tL (L ++ M) φ = tL L φ + tL M φ := by simp [tL, List.sum_append]
theorem tL_perm {L M : List (List Int)} (h : L.Perm M) (φ : List Int → Int) : tL L φ = tL M φ := sum_permI (h.map φ)
theorem tL_congr {L : List (List Int)} {φ ψ : List Int → Int} (h : ∀ p ∈ L, φ p = ψ p) : tL L φ = tL L ψ := by unfold tL; rw [List.map_congr_left h]
theorem tL_add (L : List (List Int)) (φ ψ : List Int → Int) : tL L (fun p => φ p + ψ p) = tL L φ + tL L ψ := by
  induction L with
  | nil => rfl
  | cons p L ih => rw [tL_cons, tL_cons, tL_cons, ih]; omega
theorem tL_const (L : List (List Int)) (c : Int) : tL L (fun _ => c) = (L.length : Int) * c := by
  induction L with
  | nil => simp [tL]
  | cons p L ih => rw [tL_cons, ih, List.length_cons, Int.natCast_succ, Int.add_mul, Int.one_mul, Int.add_comm]
theorem tL_le {L : List (List Int)} {φ ψ : List Int → Int} (h : ∀ p ∈ L, φ p ≤ ψ p) : tL L φ ≤ tL L ψ := by
  induction L with
  | nil => exact Int.le_refl _
  | cons p L ih => rw [tL_cons, tL_cons]; have := h p (by simp); have := ih (fun q hq => h q (by simp [hq])); omega
theorem tI_tL (S : List Int) (L : List (List Int)) (φ : List Int → Int → Int) : tI S (fun i => tL L (fun p => φ p i)) = tL L (fun p => tI S (φ p)) := by
  induction S with
  | nil => have := tL_const L 0; simp only [tI_nil]; rw [this]; simp
  | cons x S ih =>
    rw [tI_cons, ih, ← tL_add]
    exact tL_congr (fun p _ => by rw [tI_cons])
theorem tL_bd {L : List (List Int)} {φ : List Int → Int} {B : Int} (h : ∀ p ∈ L, -B ≤ φ p ∧ φ p ≤ B) : -((L.length : Int) * B) ≤ tL L φ ∧ tL L φ ≤ (L.length : Int) * B := by
  have h1 := tL_le (L := L) (φ := fun _ => -B) (ψ := φ) (fun p hp => (h p hp).1)
  have h2 := tL_le (L := L) (φ := φ) (ψ := fun _ => B) (fun p hp => (h p hp).2)
  rw [tL_const] at h1 h2
  rw [Int.mul_neg] at h1
  exact ⟨h1, h2⟩

/-- The set of the first k of p. -/
def b2 (j : Nat) : Nat := 2 ^ j
def pS (p : List Int) (k : Nat) : Nat := tot (p.take k) (wI b2)
/-- What x adds to those that are there before it. -/
def rowG (v : Nat → Int) (n : Nat) (p : List Int) (x : Int) : Int := v (preP b2 n p x + 2 ^ x.toNat) - v (preP b2 n p x)
/-- Over all orders. -/
def shG (v : Nat → Int) (n : Nat) (x : Int) : Int := tL (allO n) (fun p => rowG v n p x)
section
variable {n : Nat} {v : Nat → Int} {p : List Int}
theorem hv_self : ∀ (n S : Nat), hv b2 n S = S % 2 ^ n := by
  intro n
  induction n with
  | zero => intro S; rw [Nat.pow_zero, Nat.mod_one]; rfl
  | succ n ih =>
    intro S
    have h := ih S
    unfold hv at h ⊢
    rw [sN, h, Nat.mod_pow_succ, Nat.testBit_eq_decide_div_mod_eq]
    unfold b2
    have : S / 2 ^ n % 2 = 0 ∨ S / 2 ^ n % 2 = 1 := by omega
    rcases this with q | q <;> rw [q] <;> simp
theorem hv_id {S : Nat} (h : S < 2 ^ n) : hv b2 n S = S := by rw [hv_self, Nat.mod_eq_of_lt h]
theorem add_tog {S x : Nat} (hx : x < n) (hS : S < 2 ^ n) (hb : S.testBit x = false) : S + 2 ^ x = S ^^^ 2 ^ x ∧ S + 2 ^ x < 2 ^ n := by
  have h1 : (S ^^^ 2 ^ x).testBit x = true := by rw [tog_bit, if_pos rfl, hb]; rfl
  have h2 := hv_tog (W := b2) (n := n) hx h1
  rw [tog_tog, hv_id hS, hv_id (tog_lt hS hx)] at h2
  have h3 := tog_lt (n := n) hS hx
  unfold b2 at h2
  omega
theorem hv_add {W : Nat → Nat} {S x : Nat} (hx : x < n) (hS : S < 2 ^ n) (hb : S.testBit x = false) : hv W n (S + 2 ^ x) = hv W n S + W x := by
  rw [(add_tog hx hS hb).1]
  have h1 : (S ^^^ 2 ^ x).testBit x = true := by rw [tog_bit, if_pos rfl, hb]; rfl
  have h2 := hv_tog (W := W) (n := n) hx h1
  rw [tog_tog] at h2
  omega
theorem take_one {k : Nat} (hk : k < p.length) (φ : Int → Nat) : tot (p.take (k + 1)) φ = tot (p.take k) φ + φ (p.getD k 0) := by
  rw [take_succ_getD p k hk, tot_append, tot_cons, tot_nil]; omega
theorem at_nat (hp : p.Perm (sides n)) {k : Nat} (hk : k < n) : ∃ x : Nat, p.getD k 0 = x ∧ x < n := by
  have := mem_sides.1 (hp.mem_iff.1 (getD_mem p k (by rw [perm_len hp]; exact hk)))
  exact ⟨(p.getD k 0).toNat, by omega, by omega⟩
theorem pS_zero (p : List Int) : pS p 0 = 0 := rfl
/-- The first k of p, as a set. -/
theorem pS_all (hp : p.Perm (sides n)) : ∀ k, k ≤ n → pS p k < 2 ^ n ∧ (∀ j, j < n → ((pS p k).testBit j = true ↔ (j : Int) ∈ p.take k)) ∧ ∀ W : Nat → Nat, hv W n (pS p k) = tot (p.take k) (wI W) := by
  intro k
  have hl := perm_len hp
  have hnd := perm_nodup hp
  induction k with
  | zero =>
    intro _
    refine ⟨by rw [pS_zero]; exact Nat.two_pow_pos n, fun j hj => by rw [pS_zero]; simp, fun W => ?_⟩
    rw [pS_zero]
    have : hv W n 0 = sN (fun _ => 0) n := sN_congr (fun j _ => by simp)
    rw [this, sN_zero]; rfl
  | succ k ih =>
    intro hk
    obtain ⟨h1, h2, h3⟩ := ih (by omega)
    obtain ⟨x, hx, hxn⟩ := at_nat hp (show k < n by omega)
    have hnot : (x : Int) ∉ p.take k := by
      intro hm
      obtain ⟨j, hj, he⟩ := List.getElem_of_mem hm
      rw [List.length_take] at hj
      rw [List.getElem_take, ← getD_get (by omega), ← hx] at he
      have e1 := pos_idx hnd (k := j) (by omega)
      have e2 := pos_idx hnd (k := k) (by omega)
      rw [he] at e1
      omega
    have hb : (pS p k).testBit x = false := by
      cases q : (pS p k).testBit x with
      | false => rfl
      | true => exact absurd ((h2 x hxn).1 q) hnot
    have hs : pS p (k + 1) = pS p k + 2 ^ x := by
      unfold pS
      rw [take_one (by omega), hx]
      unfold wI b2
      rw [Int.toNat_natCast]
    obtain ⟨a1, a2⟩ := add_tog hxn h1 hb
    refine ⟨by rw [hs]; exact a2, fun j hj => ?_, fun W => ?_⟩
    · rw [hs, a1, tog_bit, take_succ_getD p k (by omega), List.mem_append, List.mem_singleton, hx]
      by_cases e : x = j
      · subst e; simp [hb]
      · rw [if_neg e, h2 j hj]
        constructor
        · exact .inl
        · rintro (q | q)
          · exact q
          · omega
    · rw [hs, hv_add hxn h1 hb, h3, take_one (by omega), hx]
      unfold wI
      rw [Int.toNat_natCast]
theorem pS_step (hp : p.Perm (sides n)) {k : Nat} (hk : k < n) {x : Nat} (hx : p.getD k 0 = x) : pS p (k + 1) = pS p k + 2 ^ x := by
  have hl := perm_len hp
  unfold pS
  rw [take_one (by omega), hx]
  unfold wI b2
  rw [Int.toNat_natCast]
theorem pS_end (hp : p.Perm (sides n)) : pS p n = 2 ^ n - 1 := by
  have hl := perm_len hp
  obtain ⟨h1, h2, _⟩ := pS_all hp n (Nat.le_refl _)
  apply Nat.eq_of_testBit_eq
  intro j
  rw [Nat.testBit_two_pow_sub_one]
  by_cases hj : j < n
  · rw [decide_eq_true hj]
    have := (h2 j hj).2 (by rw [List.take_of_length_le (by omega)]; exact hp.mem_iff.2 (mem_sides.2 ⟨by omega, by omega⟩))
    exact this
  · rw [decide_eq_false hj]
    exact Nat.testBit_lt_two_pow (Nat.lt_of_lt_of_le h1 (Nat.pow_le_pow_right (by omega) (by omega)))
theorem pre_pS (hp : p.Perm (sides n)) {k : Nat} (hk : k < n) : preP b2 n p (p.getD k 0) = pS p k := pre_take hp hk
theorem row_at (hp : p.Perm (sides n)) {k : Nat} (hk : k < n) : rowG v n p (p.getD k 0) = v (pS p (k + 1)) - v (pS p k) := by
  obtain ⟨x, hx, _⟩ := at_nat hp hk
  unfold rowG
  rw [pre_pS hp hk, pS_step hp hk hx, hx, Int.toNat_natCast]
/-- The set before i: less than all, without i, of the weight of those before. -/
theorem pre_all (hp : p.Perm (sides n)) {i : Nat} (hi : i < n) : preP b2 n p i < 2 ^ n ∧ (preP b2 n p i).testBit i = false ∧ ∀ W : Nat → Nat, hv W n (preP b2 n p i) = preP W n p i := by
  have hl := perm_len hp
  have hnd := perm_nodup hp
  obtain ⟨k, hk, h1, h2⟩ := pos_mem hnd (hp.mem_iff.2 (mem_sides.2 ⟨show (0 : Int) ≤ (i : Int) by omega, by omega⟩))
  have hkn : k < n := by omega
  obtain ⟨a1, a2, a3⟩ := pS_all hp k (by omega)
  rw [← h1, pre_pS hp hkn]
  refine ⟨a1, ?_, fun W => by rw [a3, pre_take hp hkn]⟩
  cases q : (pS p k).testBit i with
  | false => rfl
  | true =>
    have hm := (a2 i hi).1 q
    obtain ⟨j, hj, he⟩ := List.getElem_of_mem hm
    rw [List.length_take] at hj
    rw [List.getElem_take, ← getD_get (by omega)] at he
    have e1 := pos_idx hnd (k := j) (by omega)
    rw [he] at e1
    omega
/-- What all add in one order. -/
theorem row_sum (hp : p.Perm (sides n)) : tI (sides n) (rowG v n p) = v (2 ^ n - 1) - v 0 := by
  have hl := perm_len hp
  have h : ∀ k, k ≤ n → tI (p.take k) (rowG v n p) = v (pS p k) - v 0 := by
    intro k
    induction k with
    | zero => intro _; rw [pS_zero]; simp [tI]
    | succ k ih =>
      intro hk
      rw [take_succ_getD p k (by omega), tI_append, tI_cons, tI_nil, ih (by omega), row_at hp (by omega)]
      omega
  have := h n (Nat.le_refl _)
  rw [List.take_of_length_le (by omega), pS_end hp] at this
  rw [← tI_perm hp, this]
theorem sh_sum : tI (sides n) (shG v n) = ((allO n).length : Int) * (v (2 ^ n - 1) - v 0) := by
  unfold shG
  rw [tI_tL, ← tL_const]
  exact tL_congr (fun p hp => row_sum (mem_allO.1 hp))
theorem sh_add (v w : Nat → Int) (x : Int) : shG (fun S => v S + w S) n x = shG v n x + shG w n x := by
  unfold shG
  rw [← tL_add]
  exact tL_congr (fun p _ => by unfold rowG; dsimp only; omega)
theorem sh_congr {w : Nat → Int} (h : ∀ S, S < 2 ^ n → v S = w S) {i : Nat} (hi : i < n) : shG v n i = shG w n i := by
  unfold shG
  refine tL_congr (fun p hp => ?_)
  obtain ⟨h1, h2, _⟩ := pre_all (mem_allO.1 hp) hi
  unfold rowG
  rw [Int.toNat_natCast, h _ h1, h _ (add_tog hi h1 h2).2]
/-- What each could hinder. -/
theorem sh_dual {i : Nat} (hi : i < n) : shG (fun S => v (2 ^ n - 1) - v (2 ^ n - 1 - S)) n i = shG v n i := by
  have hr : ((allO n).map List.reverse).Perm (allO n) := allO_map (fun p hp => (List.reverse_perm p).trans hp) (fun p q _ _ h => by have := congrArg List.reverse h; simpa using this)
  unfold shG
  rw [← tL_perm hr]
  unfold tL
  rw [List.map_map]
  refine congrArg List.sum (List.map_congr_left (fun p hp => ?_))
  have hp := mem_allO.1 hp
  have h := pre_rev (W := b2) hp hi
  have hf : tot (sides n) (wI b2) = 2 ^ n - 1 := by
    rw [tot_sN, ← hv_full, hv_id (by have := Nat.two_pow_pos n; omega)]
  rw [hf, show b2 i = 2 ^ i from rfl] at h
  unfold rowG
  simp only [Function.comp_apply, Int.toNat_natCast]
  generalize preP b2 n p.reverse i = A at *
  generalize preP b2 n p i = B at *
  generalize 2 ^ i = I at *
  generalize 2 ^ n - 1 = F at *
  rw [show F - (A + I) = B by omega, show F - A = B + I by omega]
  omega
/-- Who makes each set worth as much more. -/
theorem sh_idle {k : Nat} (hk : k < n) {own : Int} (h : ∀ S, S < 2 ^ n → S.testBit k = false → v (S + 2 ^ k) = v S + own) : shG v n k = ((allO n).length : Int) * own := by
  unfold shG
  rw [← tL_const]
  refine tL_congr (fun p hp => ?_)
  obtain ⟨h1, h2, _⟩ := pre_all (mem_allO.1 hp) hk
  unfold rowG
  rw [Int.toNat_natCast, h _ h1 h2]
  omega
/-- Renamed. -/
def rnL (N p : List Int) : List Int := p.map fun x => N.getD x.toNat 0
theorem rn_perm {N : List Int} (hN : N.Perm (sides n)) {p : List Int} (hp : p.Perm (sides n)) : (rnL N p).Perm (sides n) := by
  have hl := perm_len hN
  have h := hp.map (fun x => N.getD x.toNat 0)
  have e : (sides n).map (fun z => N.getD z.toNat 0) = N := by rw [← hl]; exact (as_map N).symm
  rw [e] at h
  exact h.trans hN
def nmW (N : List Int) (i : Nat) : Nat := 2 ^ (N.getD i 0).toNat
theorem ren_pS {N : List Int} (hN : N.Perm (sides n)) (hp : p.Perm (sides n)) {k : Nat} (hk : k ≤ n) : pS (rnL N p) k = hv (nmW N) n (pS p k) := by
  rw [(pS_all hp k hk).2.2]
  unfold pS rnL
  rw [← List.map_take]
  unfold tot
  rw [List.map_map]
  rfl
theorem sh_ren {N : List Int} (hN : N.Perm (sides n)) {w : Nat → Int} (hw : ∀ S, S < 2 ^ n → w (hv (nmW N) n S) = v S) {i : Nat} (hi : i < n) : shG w n (N.getD i 0) = shG v n i := by
  have hr : ((allO n).map (rnL N)).Perm (allO n) := allO_map (fun p hp => rn_perm hN hp) (fun p q hp hq h => by
    have hl := perm_len hp
    have hl2 := perm_len hq
    apply List.ext_getElem (by omega)
    intro k h1 h2
    obtain ⟨x, hx, hxn⟩ := at_nat hp (show k < n by omega)
    obtain ⟨y, hy, hyn⟩ := at_nat hq (show k < n by omega)
    have e : (rnL N p).getD k 0 = (rnL N q).getD k 0 := by rw [h]
    unfold rnL at e
    rw [List.getD_eq_getElem?_getD, List.getD_eq_getElem?_getD, List.getElem?_map, List.getElem?_map, List.getElem?_eq_getElem h1, List.getElem?_eq_getElem h2] at e
    rw [← getD_get h1, ← getD_get h2, hx, hy]
    rw [← getD_get h1, ← getD_get h2, hx, hy] at e
    simp only [Option.map_some, Option.getD_some, Int.toNat_natCast] at e
    have hNn := perm_nodup hN
    have hNl := perm_len hN
    have e1 := pos_idx hNn (k := x) (by omega)
    have e2 := pos_idx hNn (k := y) (by omega)
    rw [e] at e1
    have : x = y := by omega
    rw [this])
  unfold shG
  rw [← tL_perm hr]
  unfold tL
  rw [List.map_map]
  refine congrArg List.sum (List.map_congr_left (fun p hp => ?_))
  have hp := mem_allO.1 hp
  have hl := perm_len hp
  have hnd := perm_nodup hp
  obtain ⟨k, hk, h1, h2⟩ := pos_mem hnd (hp.mem_iff.2 (mem_sides.2 ⟨show (0 : Int) ≤ (i : Int) by omega, by omega⟩))
  have hkn : k < n := by omega
  have e1 : (rnL N p).getD k 0 = N.getD i 0 := by
    unfold rnL
    rw [List.getD_eq_getElem?_getD, List.getElem?_map, List.getElem?_eq_getElem hk, ← getD_get hk, h1]
    simp
  rw [Function.comp_apply, ← e1, row_at (rn_perm hN hp) hkn, ← h1, row_at hp hkn, ren_pS hN hp (by omega), ren_pS hN hp (by omega), hw _ (pS_all hp (k + 1) (by omega)).1, hw _ (pS_all hp k (by omega)).1]
/-- A vote by weights as such a game. -/
theorem sh_turns {W : Nat → Nat} {q i : Nat} (hi : i < n) : shG (fun S => if q ≤ hv W n S then 1 else 0) n i = (tuN W n q i : Int) := by
  unfold shG tuN
  have : ∀ L : List (List Int), (∀ p ∈ L, p.Perm (sides n)) → tL L (fun p => rowG (fun S => if q ≤ hv W n S then 1 else 0) n p i) = ((L.countP (fun p => critP W n q p (i : Int)) : Nat) : Int) := by
    intro L
    induction L with
    | nil => intro _; rfl
    | cons p L ih =>
      intro hL
      obtain ⟨h1, h2, h3⟩ := pre_all (hL p (by simp)) hi
      rw [tL_cons, ih (fun q hq => hL q (by simp [hq])), List.countP_cons]
      unfold rowG critP
      dsimp only
      rw [Int.toNat_natCast, hv_add hi h1 h2, h3]
      unfold wI
      rw [Int.toNat_natCast]
      by_cases c1 : q ≤ preP W n p i
      · rw [if_pos (by omega), if_pos c1, decide_eq_false (show ¬ preP W n p i < q by omega)]
        simp
      · rw [if_neg c1, decide_eq_true (show preP W n p i < q by omega)]
        by_cases c2 : q ≤ preP W n p i + W i
        · rw [if_pos c2, decide_eq_true c2]; simp; omega
        · rw [if_neg c2, decide_eq_false c2]; simp
  exact this _ (fun p hp => mem_allO.1 hp)
end
end Fm

/-
  What an order that the votes bear out, and a side that beats all others, make of every way of asking: lists alone, no Go text.
-/
namespace Fm
set_option linter.unusedVariables false

theorem range_one (n x : Nat) (hx : x < n) : (List.range n).filter (fun i => i == x) = [x] := by
  induction n with
  | zero => omega
  | succ n ih =>
    rw [List.range_succ, List.filter_append]
    by_cases e : x = n
    · subst e
      have h : (List.range x).filter (fun i => i == x) = [] := by
        rw [List.filter_eq_nil_iff]
        intro a ha
        have := List.mem_range.1 ha
        simp; omega
      rw [h]; simp
    · rw [ih (by omega)]
      have : ¬ n = x := fun q => e q.symm
      simp [this]
theorem beats_topL {n : Nat} {V : List (List Int)} {x : Nat} (hb : Beats n V x) : topL n (duelsM n V) = [(x : Int)] := by
  have h := topL_of (n := n) (M := duelsM n V) (fun i => i == x) ⟨x, hb.1, by simp⟩ (fun a y ha hy h1 h2 => by
    have e : a = x := by simpa using h1
    subst e
    have hne : y ≠ a := by simpa using h2
    rw [ent_duels n V hy ha, ent_duels n V ha hy]
    have := hb.2 y hy hne
    omega) (fun Q hne hd a ha hp => by
    have e : a = x := by simpa using hp
    subst e
    cases hq : Q a with
    | true => rfl
    | false =>
      obtain ⟨z, hz, hqz⟩ := hne
      have h1 := hd z a hz ha hqz hq
      have hza : z ≠ a := fun e => by subst e; rw [hq] at hqz; cases hqz
      have h2 := hb.2 z hz hza
      rw [ent_duels n V ha hz, ent_duels n V hz ha] at h1
      omega)
  rw [h, range_one n x hb.1]
  rfl
theorem beats_winP {n : Nat} (h1 : 1 ≤ n) (h6 : n ≤ 6) {V : List (List Int)} (hV : V.length ≤ 30) {x : Nat} (hb : Beats n V x) : winP n (duelsM n V) = [(x : Int)] := by
  have T := tab_of (tchk_duels h1 h6 hV)
  rw [duelsM_len] at T
  have h := beats_topL hb
  rw [win_one T (by rw [h]; rfl), h]
theorem beats_best {n : Nat} (h1 : 1 ≤ n) (h6 : n ≤ 6) {V : List (List Int)} (hV : ∀ q ∈ V, q.Perm (sides n)) {x : Nat} (hb : Beats n V x) : (bestL n V).getD 0 0 = x := by
  have h := (best_ahead h1 h6 hV (i := 0) (by omega)).2 (by rw [beats_topL hb]; exact Nat.one_pos)
  rw [beats_topL hb] at h
  simpa using h

/-- The votes bear the order p out. -/
def Bears (n : Nat) (V : List (List Int)) (p : List Int) : Prop := ∀ x y : Nat, x < n → y < n → pos p x < pos p y → cnt V y x < cnt V x y
theorem bears_beats {n : Nat} (h1 : 1 ≤ n) {V : List (List Int)} {p : List Int} (hp : p.Perm (sides n)) (h : Bears n V p) {x : Nat} (hx : p.getD 0 0 = x) : Beats n V x := by
  have hl := perm_len hp
  obtain ⟨x', hx', hxn⟩ := at_nat hp (show 0 < n by omega)
  obtain rfl : x = x' := by omega
  have hpx : pos p (x : Int) = 0 := by rw [← hx]; exact pos_idx (perm_nodup hp) (k := 0) (by omega)
  refine ⟨hxn, fun y hy hne => h x y hxn hy ?_⟩
  have h0 := (pos_range hp hy).1
  have hne2 : pos p (y : Int) ≠ 0 := fun q => hne (by
    have := pos_inj (perm_nodup hp) (hp.mem_iff.2 (mem_sides.2 ⟨by omega, by omega⟩)) (hp.mem_iff.2 (mem_sides.2 ⟨by omega, by omega⟩)) (show pos p (y : Int) = pos p (x : Int) by rw [q, hpx])
    omega)
  omega
/-- What rises along p is p. -/
theorem rise_eq {n : Nat} {p q : List Int} (hp : p.Perm (sides n)) (hq : q.Perm (sides n)) (h : ∀ j, j + 1 < n → pos p (q.getD j 0) < pos p (q.getD (j + 1) 0)) : q = p := by
  have hlp := perm_len hp
  have hlq := perm_len hq
  have hr : ∀ j, j < n → 0 ≤ pos p (q.getD j 0) ∧ pos p (q.getD j 0) < n := fun j hj => by
    obtain ⟨x, hx, hxn⟩ := at_nat hq hj
    rw [hx]; exact pos_range hp hxn
  have hlow : ∀ j, j < n → (j : Int) ≤ pos p (q.getD j 0) := by
    intro j
    induction j with
    | zero => intro hj; exact (hr 0 hj).1
    | succ j ih => intro hj; have := ih (by omega); have := h j hj; omega
  have hup : ∀ d j, j + d + 1 = n → pos p (q.getD j 0) ≤ j := by
    intro d
    induction d with
    | zero => intro j hj; have := hr j (by omega); omega
    | succ d ih => intro j hj; have := ih (j + 1) (by omega); have := h j (by omega); omega
  apply List.ext_getElem (by omega)
  intro j h1 h2
  have e : pos p (q.getD j 0) = j := by
    have a1 := hlow j (by omega)
    have a2 := hup (n - j - 1) j (by omega)
    omega
  obtain ⟨x, hx, hxn⟩ := at_nat hq (show j < n by omega)
  have e2 := pos_idx (perm_nodup hp) (k := j) (by omega)
  obtain ⟨y, hy, hyn⟩ := at_nat hp (show j < n by omega)
  rw [← getD_get h1, ← getD_get h2, hx, hy]
  rw [hx] at e
  rw [hy] at e2
  exact pos_inj (perm_nodup hp) (hp.mem_iff.2 (mem_sides.2 ⟨by omega, by omega⟩)) (hp.mem_iff.2 (mem_sides.2 ⟨by omega, by omega⟩)) (by rw [e, e2])
theorem bears_best {n : Nat} (h1 : 1 ≤ n) (h6 : n ≤ 6) {V : List (List Int)} (hV : ∀ q ∈ V, q.Perm (sides n)) {p : List Int} (hp : p.Perm (sides n)) (h : Bears n V p) : bestL n V = p := by
  have hb := (best_all h1 h6 V).1
  refine rise_eq hp hb (fun j hj => ?_)
  obtain ⟨x, hx, hxn⟩ := at_nat hb (show j < n by omega)
  obtain ⟨y, hy, hyn⟩ := at_nat hb (show j + 1 < n by omega)
  have hs := best_step h1 h6 hV hj hx hy
  rw [hx, hy]
  have hne : (x : Int) ≠ y := fun e => by
    have e1 := pos_idx (perm_nodup hb) (k := j) (by rw [perm_len hb]; omega)
    have e2 := pos_idx (perm_nodup hb) (k := j + 1) (by rw [perm_len hb]; omega)
    rw [hx] at e1
    rw [hy, ← e, e1] at e2
    omega
  rcases Int.lt_trichotomy (pos p (x : Int)) (pos p (y : Int)) with q | q | q
  · exact q
  · exact absurd (pos_inj (perm_nodup hp) (hp.mem_iff.2 (mem_sides.2 ⟨by omega, by omega⟩)) (hp.mem_iff.2 (mem_sides.2 ⟨by omega, by omega⟩)) q) hne
  · have := h y x hyn hxn q; omega

/-- All pairs of p, in order: the first i ones with all behind, and of the i-th those up to k. -/
def prI (p : List Int) (i : Nat) : Nat → List (List Int)
  | 0 => []
  | k + 1 => prI p i k ++ if i < k then [[p.getD i 0, p.getD k 0]] else []
def prA (p : List Int) : Nat → List (List Int)
  | 0 => []
  | i + 1 => prA p i ++ prI p i p.length
theorem mem_prI {p : List Int} {i : Nat} {b : List Int} : ∀ k, b ∈ prI p i k ↔ ∃ j, i < j ∧ j < k ∧ b = [p.getD i 0, p.getD j 0] := by
  intro k
  induction k with
  | zero => simp [prI]
  | succ k ih =>
    rw [prI, List.mem_append, ih]
    constructor
    · rintro (⟨j, h1, h2, h3⟩ | h)
      · exact ⟨j, h1, by omega, h3⟩
      · by_cases q : i < k
        · rw [if_pos q] at h; exact ⟨k, q, by omega, by simpa using h⟩
        · rw [if_neg q] at h; cases h
    · rintro ⟨j, h1, h2, h3⟩
      by_cases q : j = k
      · subst q; right; rw [if_pos h1, h3]; simp
      · left; exact ⟨j, h1, by omega, h3⟩
theorem mem_prA {p : List Int} {b : List Int} : ∀ n, b ∈ prA p n ↔ ∃ i j, i < n ∧ i < j ∧ j < p.length ∧ b = [p.getD i 0, p.getD j 0] := by
  intro n
  induction n with
  | zero => simp [prA]
  | succ n ih =>
    rw [prA, List.mem_append, ih, mem_prI]
    constructor
    · rintro (⟨i, j, h1, h2, h3, h4⟩ | ⟨j, h1, h2, h3⟩)
      · exact ⟨i, j, by omega, h2, h3, h4⟩
      · exact ⟨n, j, by omega, h1, h2, h3⟩
    · rintro ⟨i, j, h1, h2, h3, h4⟩
      by_cases q : i = n
      · subst q; right; exact ⟨j, h2, h3, h4⟩
      · left; exact ⟨i, j, by omega, h2, h3, h4⟩
theorem prI_len (p : List Int) (i : Nat) : ∀ k, (prI p i k).length ≤ k := by
  intro k
  induction k with
  | zero => exact Nat.le_refl _
  | succ k ih =>
    rw [prI, List.length_append]
    have : (if i < k then [[p.getD i 0, p.getD k 0]] else []).length ≤ 1 := by split <;> simp
    omega
theorem prI_nil (p : List Int) (i : Nat) : ∀ k, k ≤ i + 1 → prI p i k = [] := by
  intro k
  induction k with
  | zero => intro _; rfl
  | succ k ih => intro hk; rw [prI, ih (by omega), if_neg (by omega)]; rfl
theorem prI_next (p : List Int) {i k : Nat} (h : i < k) : prI p i (k + 1) = prI p i k ++ [[p.getD i 0, p.getD k 0]] := by rw [prI, if_pos h]
theorem prA_le (p : List Int) : ∀ i, (prA p i).length ≤ i * p.length := by
  intro i
  induction i with
  | zero => simp [prA]
  | succ i ih => rw [prA, List.length_append, Nat.succ_mul]; have := prI_len p i p.length; omega
section
variable {n : Nat} {p : List Int}
theorem pr_nd (hp : p.Perm (sides n)) {i j i' j' : Nat} (hi : i < n) (hj : j < n) (hi' : i' < n) (hj' : j' < n) (h : [p.getD i 0, p.getD j 0] = [p.getD i' 0, p.getD j' 0]) : i = i' ∧ j = j' := by
  have hl := perm_len hp
  have hnd := perm_nodup hp
  injection h with h1 h2
  injection h2 with h2 _
  have e1 := pos_idx hnd (k := i) (by omega)
  have e2 := pos_idx hnd (k := i') (by omega)
  have e3 := pos_idx hnd (k := j) (by omega)
  have e4 := pos_idx hnd (k := j') (by omega)
  rw [h1] at e1
  rw [h2] at e3
  omega
theorem prI_fresh (hp : p.Perm (sides n)) {i : Nat} (hi : i < n) : ∀ k, k ≤ n → Fresh (prI p i k) := by
  intro k
  induction k with
  | zero => intro _; exact List.Pairwise.nil
  | succ k ih =>
    intro hk
    rw [prI]
    by_cases q : i < k
    · rw [if_pos q]
      refine fresh_snoc (ih (by omega)) (fun hm => ?_) (fun hm => ?_)
      · obtain ⟨j, h1, h2, h3⟩ := (mem_prI k).1 hm
        have := (pr_nd hp hi (by omega) hi (by omega) h3).2
        omega
      · obtain ⟨j, h1, h2, h3⟩ := (mem_prI k).1 hm
        have := (pr_nd hp (show k < n by omega) hi hi (by omega) h3).1
        omega
    · rw [if_neg q, List.append_nil]; exact ih (by omega)
theorem prA_fresh (hp : p.Perm (sides n)) : ∀ i, i ≤ n → Fresh (prA p i) := by
  intro i
  induction i with
  | zero => intro _; exact List.Pairwise.nil
  | succ i ih =>
    intro hi
    have hl := perm_len hp
    rw [prA]
    unfold Fresh
    rw [List.pairwise_append]
    refine ⟨ih (by omega), by rw [hl]; exact prI_fresh hp (by omega) n (Nat.le_refl _), fun a ha b hb => ?_⟩
    obtain ⟨i1, j1, h1, h2, h3, rfl⟩ := (mem_prA i).1 ha
    obtain ⟨j2, h4, h5, rfl⟩ := (mem_prI _).1 hb
    refine ⟨fun e => ?_, fun e => ?_⟩
    · have := (pr_nd hp (by omega) (by omega) (by omega) (by omega) e).1
      omega
    · have e2 : [p.getD i1 0, p.getD j1 0] = [p.getD j2 0, p.getD i 0] := by rw [e]; rfl
      have := pr_nd hp (by omega) (by omega) (by omega) (by omega) e2
      omega
theorem prA_ok (hp : p.Perm (sides n)) : ∀ b ∈ prA p n, okPair n b := fun b hb => by
  have hl := perm_len hp
  obtain ⟨i, j, h1, h2, h3, rfl⟩ := (mem_prA n).1 hb
  obtain ⟨x, hx, hxn⟩ := at_nat hp (show i < n by omega)
  obtain ⟨y, hy, hyn⟩ := at_nat hp (show j < n by omega)
  refine ⟨rfl, ?_, ?_, ?_⟩
  · show 0 ≤ p.getD i 0 ∧ p.getD i 0 < n
    rw [hx]; omega
  · show 0 ≤ p.getD j 0 ∧ p.getD j 0 < n
    rw [hy]; omega
  · show p.getD i 0 ≠ p.getD j 0
    intro e
    have e1 := pos_idx (perm_nodup hp) (k := i) (by omega)
    have e2 := pos_idx (perm_nodup hp) (k := j) (by omega)
    rw [e, e2] at e1
    omega
theorem prA_bears (h6 : n ≤ 6) (hp : p.Perm (sides n)) : Bears n (mcg n (prA p n)) p := fun x y hx hy hxy => by
  have hl := perm_len hp
  have hnd := perm_nodup hp
  have h := dif_mcg h6 (prA_ok hp) (prA_fresh hp n (Nat.le_refl _)) hx hy
  have hin : [(x : Int), (y : Int)] ∈ prA p n := by
    obtain ⟨i, hi, h1, h2⟩ := pos_mem hnd (hp.mem_iff.2 (mem_sides.2 ⟨show (0 : Int) ≤ (x : Int) by omega, by omega⟩))
    obtain ⟨j, hj, h3, h4⟩ := pos_mem hnd (hp.mem_iff.2 (mem_sides.2 ⟨show (0 : Int) ≤ (y : Int) by omega, by omega⟩))
    exact (mem_prA n).2 ⟨i, j, by omega, by omega, by omega, by rw [h1, h3]⟩
  have h2 := h.1 hin
  unfold dif at h2
  omega
theorem mcg_lenT (n : Nat) : ∀ L : List (List Int), (mcg n L).length = 2 * L.length := by
  intro L
  induction L with
  | nil => rfl
  | cons b L ih => rw [mcg_cons, List.length_cons, List.length_cons, List.length_cons, ih]; omega
theorem prA_len (h6 : n ≤ 6) (hp : p.Perm (sides n)) : (prA p n).length ≤ 15 := fresh_len h6 (prA_ok hp) (prA_fresh hp n (Nat.le_refl _))
theorem prA_bchk (h1 : 1 ≤ n) (h6 : n ≤ 6) (hp : p.Perm (sides n)) : bchk n (prA p n) = 0 := by
  have := prA_len h6 hp
  unfold bchk
  rw [if_neg (by omega), if_neg (by omega), if_pos (prA_ok hp)]
theorem prA_vchk (h1 : 1 ≤ n) (h6 : n ≤ 6) (hp : p.Perm (sides n)) : vchk n (mcg n (prA p n)) = 0 := mcg_ok h1 h6 (prA_ok hp) (prA_len h6 hp) (mcg_lenT n _)
end
theorem vpermT {n : Nat} {V : List (List Int)} (h : vchk n V = 0) : ∀ p ∈ V, p.Perm (sides n) := fun p hp => by
  obtain ⟨h1, h2, h3⟩ := chk_zero ((vchk_zero h).2.2 p hp)
  exact isOrd_perm (by omega) h3
theorem along_self {n : Nat} {line : List Int} (hl : line.Perm (sides n)) : Along line line := by
  intro i j k hij hjk hk
  have hnd := perm_nodup hl
  have e2 := pos_idx hnd (k := j) (by omega)
  have e3 := pos_idx hnd (k := k) (by omega)
  unfold lastB
  rw [decide_eq_false]
  omega
def alongs (line : List Int) (V : List (List Int)) : List (List Int) := V.filter (alongB line)
theorem alongs_next (line : List Int) (V : List (List Int)) {t : Nat} (ht : t < V.length) : alongs line (V.take (t + 1)) = alongs line (V.take t) ++ if alongB line (V.getD t []) = true then [V.getD t []] else [] := by
  have hsn : V.take (t + 1) = V.take t ++ [V.getD t []] := by
    rw [List.take_succ_eq_append_getElem ht, List.getD_eq_getElem?_getD, List.getElem?_eq_getElem ht]; rfl
  unfold alongs
  rw [hsn, List.filter_append]
  congr 1
  generalize V.getD t [] = q
  cases h : alongB line q with
  | true => simp [h]
  | false => simp [h]
theorem alongs_len (line : List Int) (V : List (List Int)) : (alongs line V).length ≤ V.length := List.length_filter_le _ _
theorem alongs_mem {line : List Int} {V : List (List Int)} {q : List Int} (h : q ∈ alongs line V) : q ∈ V ∧ Along line q := by
  unfold alongs at h
  rw [List.mem_filter] at h
  exact ⟨h.1, along_iff.1 h.2⟩
theorem perm_vchkT {n : Nat} (h1 : 1 ≤ n) (h6 : n ≤ 6) {V : List (List Int)} (hl : V.length ≤ 30) (hV : ∀ p ∈ V, p.Perm (sides n)) : vchk n V = 0 :=
  vchk_ok (by omega) (by omega) (fun l hl => chk_perm (hV l hl) h1 h6)
end Fm

/-
  What a call of the program answers, in three shapes: an error, a list, a matrix.
-/
namespace Go.Proofs.Ythcaipnlgbnfkaa
open Go.RowKit Fm
set_option linter.unusedVariables false

/-- An error: an empty slice and the error's number. -/
def ErrOut (r : Int) (w : World) (e : Ending) (w' : World) : Prop := ∃ a c, e = .returned (.tuple #[.slice a 0 c, .int .i64 r]) ∧ Below w.heap.size w w'
/-- An error: nil and the error's number. -/
def ErrNil (r : Int) (w : World) (e : Ending) (w' : World) : Prop := e = .returned (.tuple #[.slice none 0 0, .int .i64 r]) ∧ Below w.heap.size w w'
theorem ErrNil.out {r : Int} {w w' : World} {e : Ending} (h : ErrNil r w e w') : ErrOut r w e w' := ⟨none, 0, h.1, h.2⟩
/-- A list, and no error. -/
def IntsOut (l : List Int) (w : World) (e : Ending) (w' : World) : Prop := ∃ a c, e = .returned (.tuple #[.slice a l.length c, .int .i64 0]) ∧ l.length ≤ c ∧ c ≤ maxLen ∧ Rd w' w'.heap.size a l.length l ∧ Below w.heap.size w w'
/-- A matrix, and no error. -/
def MatOut (M : List (List Int)) (w : World) (e : Ending) (w' : World) : Prop := ∃ a c, e = .returned (.tuple #[.slice a M.length c, .int .i64 0]) ∧ M.length ≤ c ∧ c ≤ maxLen ∧ RdR w' w'.heap.size a M.length M ∧ Below w.heap.size w w'

/-- A list in a row of the call's own, and no error. -/
def OwnOut (l : List Int) (w : World) (e : Ending) (w' : World) : Prop := ∃ v, e = .returned (.tuple #[v, .int .i64 0]) ∧ w'.ownsRow w.heap.size 3 1 v l.length (I l) ∧ Below w.heap.size w w'
theorem OwnOut.ints {l : List Int} {w w' : World} {e : Ending} (h : OwnOut l w e w') : IntsOut l w e w' := by
  obtain ⟨v, rfl, ho, hb⟩ := h
  obtain ⟨a, c, rfl, h1, h2⟩ := own_slice ho
  exact ⟨a, c, rfl, h1, h2, Rd.of_own ho, hb⟩
/-- A matrix of the call's own, and no error. -/
def MatOwn (M : List (List Int)) (w : World) (e : Ending) (w' : World) : Prop := ∃ v, e = .returned (.tuple #[v, .int .i64 0]) ∧ Mat w' w.heap.size 22 3 v M ∧ Below w.heap.size w w'
theorem MatOwn.mat {M : List (List Int)} {w w' : World} {e : Ending} (h : MatOwn M w e w') : MatOut M w e w' := by
  obtain ⟨v, rfl, hm, hb⟩ := h
  obtain ⟨vs, h1, h2, h3⟩ := hm
  rcases h1.2 with ⟨e1, e2⟩ | ⟨g, cap, cur, e1, _, _, h4, h5, _⟩
  · obtain rfl := List.eq_nil_of_length_eq_zero e2
    subst e1
    exact ⟨none, 0, rfl, Nat.le_refl _, by unfold maxLen; omega, RdR.nil_, hb⟩
  · subst e1
    exact ⟨_, cap, rfl, h4, h5, RdR.of_own h1 rfl h2, hb⟩

theorem ext_trans {w w1 w2 : World} (h : Below w.heap.size w w1) (h2 : Below w1.heap.size w1 w2) : Below w.heap.size w w2 := h.trans (h2.mono h.size)
theorem ext_drewN {w w1 : World} (h : Below w.heap.size w w1) (k : Nat) : Below w.heap.size w (w1.drewN k) := below_drewN h k
theorem rd_ext {w w1 : World} {a : Option Addr} {n : Nat} {l : List Int} (h : Rd w w.heap.size a n l) (hb : Below w.heap.size w w1) : Rd w1 w1.heap.size a n l := (h.below hb (Nat.le_refl _)).more hb.size
theorem rdr_ext {w w1 : World} {a : Option Addr} {n : Nat} {L : List (List Int)} (h : RdR w w.heap.size a n L) (hb : Below w.heap.size w w1) : RdR w1 w1.heap.size a n L := (h.below hb (Nat.le_refl _)).more hb.size
theorem own_sliceV {w : World} {B n : Nat} {e : TypeId} {v : Value} {xs : List Value} (h : w.ownsRow B e 1 v n xs) : ∃ a c, v = .slice a n c ∧ n ≤ c ∧ c ≤ maxLen ∧ (a = none → c = 0) ∧ (0 < n → ∃ g, a = some ⟨g, 0, none⟩ ∧ B ≤ g) := by
  rcases h.2 with ⟨rfl, rfl⟩ | ⟨g, cap, cur, rfl, h0, _, h1, h2, _⟩
  · exact ⟨none, 0, rfl, Nat.le_refl _, by unfold maxLen; omega, fun _ => rfl, fun h => absurd h (by omega)⟩
  · exact ⟨_, cap, rfl, h1, h2, (fun h => by cases h), fun _ => ⟨g, rfl, h0⟩⟩
theorem rdr_cut {w : World} {B n : Nat} {a : Option Addr} {L : List (List Int)} (h : RdR w B a n L) {k : Nat} (hk : k ≤ n) : RdR w B a k (L.take k) := by
  refine ⟨by rw [List.length_take, h.1]; omega, fun hk0 => ?_⟩
  obtain ⟨b, o, e, hb, hc⟩ := h.2 (by omega)
  refine ⟨b, o, e, hb, fun j hj => ?_⟩
  have e1 : (L.take k).getD j [] = L.getD j [] := by simp [List.getD_eq_getElem?_getD, hj]
  rw [e1]
  exact hc j (by omega)
end Go.Proofs.Ythcaipnlgbnfkaa

/-
  What the contracts of package duel say, each as a statement of its own: the laws above are proved from them; they are proved of the package's own text apart.
-/
namespace Go.Proofs.Ythcaipnlgbnfkaa
open Go.RowKit Fm
set_option linter.unusedVariables false

/-- A table, right or wrong, that a machine can hold. -/
def TabIn (w : World) (a : Option Addr) (m : Nat) (M : List (List Int)) : Prop := ∃ B, B ≤ w.heap.size ∧ RdR w B a m M ∧ m ≤ 17592186044416 ∧ ∀ l ∈ M, l.length ≤ 17592186044416
theorem TabIn.below {w w' : World} {a : Option Addr} {m : Nat} {M : List (List Int)} (h : TabIn w a m M) (hb : Below w.heap.size w w') : TabIn w' a m M := by
  obtain ⟨B, h1, h2, h3⟩ := h
  exact ⟨B, Nat.le_trans h1 hb.size, h2.below hb h1, h3⟩
theorem TabIn.drewN {w : World} {a : Option Addr} {m : Nat} {M : List (List Int)} (h : TabIn w a m M) (k : Nat) : TabIn (w.drewN k) a m M := h

def DCheck : Prop := ∀ (a : Option Addr) (m c : Nat) (M : List (List Int)) (w : World), TabIn w a m M →
    Calls Try.prog 98 #[.slice a m c] w fun e w' => e = .returned (.int .i64 (tchk M)) ∧ Below w.heap.size w w'

def DWinsE : Prop := ∀ (a : Option Addr) (m c : Nat) (M : List (List Int)) (w : World), TabIn w a m M → tchk M ≠ 0 →
    Calls Try.prog 76 #[.slice a m c] w (ErrOut (tchk M) w)

def DWins : Prop := ∀ (a : Option Addr) (m c : Nat) (M : List (List Int)) (w : World), TabIn w a m M → tchk M = 0 →
    Calls Try.prog 76 #[.slice a m c] w (IntsOut (winsL m M) w)

def DWorstE : Prop := ∀ (a : Option Addr) (m c : Nat) (M : List (List Int)) (w : World), TabIn w a m M → tchk M ≠ 0 →
    Calls Try.prog 103 #[.slice a m c] w (ErrOut (tchk M) w)

def DWorst : Prop := ∀ (a : Option Addr) (m c : Nat) (M : List (List Int)) (w : World), TabIn w a m M → tchk M = 0 →
    Calls Try.prog 103 #[.slice a m c] w (IntsOut (worstL m M) w)

def DTopE : Prop := ∀ (a : Option Addr) (m c : Nat) (M : List (List Int)) (w : World), TabIn w a m M → tchk M ≠ 0 →
    Calls Try.prog 40 #[.slice a m c] w (ErrOut (tchk M) w)

def DTop : Prop := ∀ (a : Option Addr) (m c : Nat) (M : List (List Int)) (w : World), TabIn w a m M → tchk M = 0 →
    Calls Try.prog 40 #[.slice a m c] w (IntsOut (topL m M) w)

def DVotesE : Prop := ∀ (n : Int) (a : Option Addr) (m c : Nat) (L : List (List Int)) (w : World), TabIn w a m L → bchk n L ≠ 0 →
    Calls Try.prog 36 #[.int .i64 n, .slice a m c] w (ErrOut (bchk n L) w)

def DVotes : Prop := ∀ (n : Nat) (a : Option Addr) (m c : Nat) (L : List (List Int)) (w : World), TabIn w a m L → bchk n L = 0 →
    Calls Try.prog 36 #[.int .i64 n, .slice a m c] w (MatOut (mcg n L) w)

end Go.Proofs.Ythcaipnlgbnfkaa

/-
  What the contracts of package middle say, each as a statement of its own: the laws above are proved from them; they are proved of the package's own text apart.
-/
namespace Go.Proofs.Ythcaipnlgbnfkaa
open Go.RowKit Fm
set_option linter.unusedVariables false

/-- A list in a row of the call's own, a number, and no error. -/
def OwnOut3 (l : List Int) (k : Int) (w : World) (e : Ending) (w' : World) : Prop := ∃ v, e = .returned (.tuple #[v, .int .i64 k, .int .i64 0]) ∧ w'.ownsRow w.heap.size 3 1 v l.length (I l) ∧ Below w.heap.size w w'
/-- A list, a number, and no error. -/
def IntsOut3 (l : List Int) (k : Int) (w : World) (e : Ending) (w' : World) : Prop := ∃ a c, e = .returned (.tuple #[.slice a l.length c, .int .i64 k, .int .i64 0]) ∧ l.length ≤ c ∧ c ≤ maxLen ∧ Rd w' w'.heap.size a l.length l ∧ Below w.heap.size w w'
theorem OwnOut3.ints {l : List Int} {k : Int} {w w' : World} {e : Ending} (h : OwnOut3 l k w e w') : IntsOut3 l k w e w' := by
  obtain ⟨v, rfl, ho, hb⟩ := h
  obtain ⟨a, c, rfl, h1, h2⟩ := own_slice ho
  exact ⟨a, c, rfl, h1, h2, Rd.of_own ho, hb⟩
/-- An error: an empty slice, zero and the error's number. -/
def ErrOut3 (r : Int) (w : World) (e : Ending) (w' : World) : Prop := ∃ a c, e = .returned (.tuple #[.slice a 0 c, .int .i64 0, .int .i64 r]) ∧ Below w.heap.size w w'
/-- What middle.Far answers, whatever is handed in. -/
def fchk (n : Int) (V : List (List Int)) (p : List Int) : Int := if vchk n V ≠ 0 then vchk n V else if chk n p ≠ 0 then 3 else 0
def farA (n : Int) (V : List (List Int)) (p : List Int) : Int := if fchk n V p = 0 then (farT V p : Int) else 0

def TDuelsM : Prop := ∀ (n : Nat) (a : Option Addr) (m c : Nat) (V : List (List Int)) (w : World) (B : Nat), B ≤ w.heap.size → RdR w B a m V → m ≤ 17592186044416 → vchk n V = 0 →
    Calls Try.prog 37 #[.int .i64 n, .slice a m c] w (MatOut (duelsM n V) w)

def MFar : Prop := ∀ (n : Int) (a : Option Addr) (m c : Nat) (V : List (List Int)) (ap : Option Addr) (mp cp : Nat) (p : List Int) (w : World), TabIn w a m V → Rd w w.heap.size ap mp p → mp ≤ 17592186044416 → mp ≤ cp →
    Calls Try.prog 45 #[.int .i64 n, .slice a m c, .slice ap mp cp] w fun e w' => e = .returned (.tuple #[.int .i64 (farA n V p), .int .i64 (fchk n V p)]) ∧ Below w.heap.size w w'

def MBestE : Prop := ∀ (n : Int) (a : Option Addr) (m c : Nat) (V : List (List Int)) (w : World), TabIn w a m V → vchk n V ≠ 0 →
    Calls Try.prog 38 #[.int .i64 n, .slice a m c] w (ErrOut3 (vchk n V) w)

def MBest : Prop := ∀ (n : Nat) (a : Option Addr) (m c : Nat) (V : List (List Int)) (w : World), TabIn w a m V → vchk n V = 0 →
    Calls Try.prog 38 #[.int .i64 n, .slice a m c] w (IntsOut3 (bestL n V) (leastN n V) w)

end Go.Proofs.Ythcaipnlgbnfkaa

/-
  What the contracts of package rules say, each as a statement of its own: the laws above are proved from them; they are proved of the package's own text apart.
-/
namespace Go.Proofs.Ythcaipnlgbnfkaa
open Go.RowKit Fm
set_option linter.unusedVariables false

def RWinE : Prop := ∀ (rule n : Int) (a : Option Addr) (m c : Nat) (V : List (List Int)) (w : World), TabIn w a m V → rchk rule n V ≠ 0 →
    Calls Try.prog 41 #[.int .i64 rule, .int .i64 n, .slice a m c] w (ErrOut (rchk rule n V) w)

def RWin : Prop := ∀ (rule : Int) (n : Nat) (a : Option Addr) (m c : Nat) (V : List (List Int)) (w : World), TabIn w a m V → rchk rule n V = 0 →
    Calls Try.prog 41 #[.int .i64 rule, .int .i64 n, .slice a m c] w (IntsOut (winL rule n V) w)

def RWinO : Prop := ∀ (rule : Int) (n : Nat) (a : Option Addr) (m c : Nat) (V : List (List Int)) (w : World), TabIn w a m V → rchk rule n V = 0 →
    Calls Try.prog 41 #[.int .i64 rule, .int .i64 n, .slice a m c] w (OwnOut (winL rule n V) w)



end Go.Proofs.Ythcaipnlgbnfkaa

/-
  What the contracts of package widest say, each as a statement of its own: the laws above are proved from them; they are proved of the package's own text apart.
-/
namespace Go.Proofs.Ythcaipnlgbnfkaa
open Go.RowKit Fm
set_option linter.unusedVariables false

def WPathsE : Prop := ∀ (a : Option Addr) (m c : Nat) (M : List (List Int)) (w : World), TabIn w a m M → tchk M ≠ 0 →
    Calls Try.prog 74 #[.slice a m c] w (ErrOut (tchk M) w)

def WPaths : Prop := ∀ (a : Option Addr) (m c : Nat) (M : List (List Int)) (w : World), TabIn w a m M → tchk M = 0 →
    Calls Try.prog 74 #[.slice a m c] w (MatOut (pathM m M) w)

def WWinE : Prop := ∀ (a : Option Addr) (m c : Nat) (M : List (List Int)) (w : World), TabIn w a m M → tchk M ≠ 0 →
    Calls Try.prog 39 #[.slice a m c] w (ErrOut (tchk M) w)

def WWin : Prop := ∀ (a : Option Addr) (m c : Nat) (M : List (List Int)) (w : World), TabIn w a m M → tchk M = 0 →
    Calls Try.prog 39 #[.slice a m c] w (IntsOut (winP m M) w)

end Go.Proofs.Ythcaipnlgbnfkaa

/-
  append of one slice of ints to a row of slices.
-/
namespace Go.Proofs.Ythcaipnlgbnfkaa
open Go.RowKit Fm
set_option linter.unusedVariables false

theorem info_ints : (Try.prog.info? 22).map (fun i => (i.zero, i.size, i.bytes)) = some (some (.slice none 0 0), 1, 24) := by kernel_rfl

/-- append(v, s), v a row of slices of the call's own, the slice s laid in a new block first. -/
theorem pushS {ops : Array Oper} {rest : List Oper} {o : Oper} {a : Act} {Q : Exit → Act → World → Prop} (hgd : o.guard = none) (s x : Operand)
    (ho : o.op = .call { callee := .builtin .append, args := #[s, x], argTypes := #[44, 44] })
    (w : World) (base : Nat) (v : Value) (n : Nat) (vs : List Value) (ya : Option Addr) (yn yc : Nat) (hs : a.eval s = v) (hx : a.eval x = .slice (some ⟨w.heap.size, 0, none⟩) 1 1)
    (hown : w.ownsRow base 22 1 v n vs) (hbase : base ≤ w.heap.size) (hn : n ≤ 1000000)
    (h : ∀ g cap w', w'.ownsRow base 22 1 (.slice (some ⟨g, 0, none⟩) (n + 1) cap) (n + 1) (vs ++ [.slice ya yn yc]) → w.grownBy w' v.ownBlock → (v.ownBlock = some g ∨ w.heap.size < g) → g < w'.heap.size →
      wpList Try.prog ops Q rest (a.put o.dst (.slice (some ⟨g, 0, none⟩) (n + 1) cap)) w') : wpList Try.prog ops Q (o :: rest) a (w.alloc (.cells #[.slice ya yn yc] 22)) := by
  obtain ⟨i0, hi, hz0, hz1, hz2⟩ := info_parts info_ints
  refine wpList_append_lies _ hgd s x 44 ho base 22 i0 (.slice none 0 0) 1 24 Try.underlying44 hi hz0 hz1 hz2 rfl (by decide) v n vs hs (hown.alloc _) ⟨w.heap.size, 0, none⟩ 1 1 [.slice ya yn yc] hx rfl ?_ ?_ (by decide) ?_ ?_ ?_ (w.heap.size + 1) (by simp) ?_
  · intro j u hj
    match j, hj with
    | 0, hj => simp at hj; subst hj; simp [Addr.add, World.cell?_alloc_new]
  · intro u hu; simp at hu; subst hu; rfl
  · unfold maxLen; omega
  · omega
  · simp; omega
  · intro g cap w' h1 h2 h3 h4
    refine h g cap w' h1 ?_ ?_ h4
    · refine ⟨h2.os, h2.tape, h2.output, Nat.le_trans (by simp) h2.size, fun k hk hne => ?_⟩
      rw [h2.block k (by simp; omega) hne]
      exact Below.heap_alloc w _ k hk
    · rcases h3 with h3 | h3
      · exact .inl h3
      · right; omega
/-- append(v, s), v a row of slices of the call's own, the slice s laid in a new block first. -/
theorem pushSB {ops : Array Oper} {rest : List Oper} {o : Oper} {a : Act} {Q : Exit → Act → World → Prop} (hgd : o.guard = none) (s x : Operand)
    (ho : o.op = .call { callee := .builtin .append, args := #[s, x], argTypes := #[44, 44] })
    (w : World) (base : Nat) (v : Value) (n : Nat) (vs : List Value) (ya : Option Addr) (yn yc : Nat) (hs : a.eval s = v) (hx : a.eval x = .slice (some ⟨w.heap.size, 0, none⟩) 1 1)
    (hown : w.ownsRow base 22 1 v n vs) (hbase : base ≤ w.heap.size) (hn : (n + 1) * 24 ≤ 140737488355328)
    (h : ∀ g cap w', w'.ownsRow base 22 1 (.slice (some ⟨g, 0, none⟩) (n + 1) cap) (n + 1) (vs ++ [.slice ya yn yc]) → w.grownBy w' v.ownBlock → (v.ownBlock = some g ∨ w.heap.size < g) → g < w'.heap.size →
      wpList Try.prog ops Q rest (a.put o.dst (.slice (some ⟨g, 0, none⟩) (n + 1) cap)) w') : wpList Try.prog ops Q (o :: rest) a (w.alloc (.cells #[.slice ya yn yc] 22)) := by
  obtain ⟨i0, hi, hz0, hz1, hz2⟩ := info_parts info_ints
  refine wpList_append_lies _ hgd s x 44 ho base 22 i0 (.slice none 0 0) 1 24 Try.underlying44 hi hz0 hz1 hz2 rfl (by decide) v n vs hs (hown.alloc _) ⟨w.heap.size, 0, none⟩ 1 1 [.slice ya yn yc] hx rfl ?_ ?_ (by decide) ?_ ?_ ?_ (w.heap.size + 1) (by simp) ?_
  · intro j u hj
    match j, hj with
    | 0, hj => simp at hj; subst hj; simp [Addr.add, World.cell?_alloc_new]
  · intro u hu; simp at hu; subst hu; rfl
  · unfold maxLen; omega
  · omega
  · simp; omega
  · intro g cap w' h1 h2 h3 h4
    refine h g cap w' h1 ?_ ?_ h4
    · refine ⟨h2.os, h2.tape, h2.output, Nat.le_trans (by simp) h2.size, fun k hk hne => ?_⟩
      rw [h2.block k (by simp; omega) hne]
      exact Below.heap_alloc w _ k hk
    · rcases h3 with h3 | h3
      · exact .inl h3
      · right; omega
end Go.Proofs.Ythcaipnlgbnfkaa

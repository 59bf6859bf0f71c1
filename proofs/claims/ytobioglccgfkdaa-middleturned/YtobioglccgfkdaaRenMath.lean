/-
  Who has won by other names, and when all vote twice: lists of ints alone.
-/
import Derived.Test.YtobioglccgfkdaaNameMath
import Derived.Test.YtobioglccgfkdaaPureB
namespace Fm
open Go.Proofs.Ytobioglccgfkdaa
set_option linter.unusedVariables false

theorem great_iff {l : List Int} {i : Nat} (hi : i < l.length) : l.getD i 0 = most l ↔ ∀ j, j < l.length → l.getD j 0 ≤ l.getD i 0 := by
  constructor
  · intro h j hj
    rw [h]
    exact most_ge hj
  · intro h
    have a := most_ge hi
    obtain ⟨j, hj, he⟩ := List.getElem_of_mem (most_mem (l := l) (by omega))
    have b := h j hj
    rw [getD_get hj, he] at b
    omega
theorem greatest_congr {l l' : List Int} (hl : l'.length = l.length) (h : ∀ x y, x < l.length → y < l.length → (l'.getD x 0 ≤ l'.getD y 0 ↔ l.getD x 0 ≤ l.getD y 0)) : greatest l' = greatest l := by
  unfold greatest greatTo
  rw [hl]
  congr 1
  apply List.filter_congr
  intro i hi
  have hi := List.mem_range.1 hi
  have e : (l'.getD i 0 = most l') ↔ (l.getD i 0 = most l) := by
    rw [great_iff (by omega), great_iff hi, hl]
    constructor
    · intro g j hj; exact (h j i hj hi).1 (g j hj)
    · intro g j hj; exact (h j i hj hi).2 (g j hj)
  by_cases g : l.getD i 0 = most l
  · rw [decide_eq_true g, decide_eq_true (e.2 g)]
  · rw [decide_eq_false g, decide_eq_false (fun x => g (e.1 x))]

/-! All vote twice. -/
theorem cnt_twice (V : List (List Int)) (x y : Int) : cnt (V ++ V) x y = 2 * cnt V x y := by
  unfold cnt; rw [List.countP_append]; omega
theorem fst1_twice (V : List (List Int)) (x : Int) : fst1 (V ++ V) x = 2 * fst1 V x := by
  unfold fst1; rw [List.countP_append]; omega
theorem tops_twice (V : List (List Int)) (left : List Int) (x : Int) : tops (V ++ V) left x = 2 * tops V left x := by
  unfold tops; rw [List.countP_append]; omega
theorem pts_append (n : Nat) (V W : List (List Int)) (x : Int) : pts n (V ++ W) x = pts n V x + pts n W x := by
  induction V with
  | nil => simp [pts]
  | cons p V ih => simp only [List.cons_append, pts, ih]; omega
theorem sg_twice (a b : Nat) : sg (((2 * a : Nat) : Int) - ((2 * b : Nat) : Int)) = sg ((a : Int) - b) := by
  unfold sg
  by_cases h : (0 : Int) < (a : Int) - b
  · rw [if_pos h, if_pos (by omega)]
  · rw [if_neg h, if_neg (by omega)]
    by_cases h2 : (a : Int) - b < 0
    · rw [if_pos h2, if_pos (by omega)]
    · rw [if_neg h2, if_neg (by omega)]
theorem worst_twice (n : Nat) (V : List (List Int)) {x : Nat} (hx : x < n) : worstTo (duelsM n (V ++ V)) x n = 2 * worstTo (duelsM n V) x n := by
  have h1 : worstTo (duelsM n (V ++ V)) x n ≤ 2 * worstTo (duelsM n V) x n := by
    rcases worst_att (duelsM n (V ++ V)) x n with h | ⟨z, hz, h⟩
    · have := worstTo_nonneg (duelsM n V) x n; omega
    · have w := worst_ge (duelsM n V) x hz
      rw [ent_duels n V hx hz, ent_duels n V hz hx] at w
      rw [ent_duels n _ hx hz, ent_duels n _ hz hx, cnt_twice, cnt_twice] at h
      omega
  have h2 : 2 * worstTo (duelsM n V) x n ≤ worstTo (duelsM n (V ++ V)) x n := by
    rcases worst_att (duelsM n V) x n with h | ⟨z, hz, h⟩
    · have := worstTo_nonneg (duelsM n (V ++ V)) x n; omega
    · have w := worst_ge (duelsM n (V ++ V)) x hz
      rw [ent_duels n _ hx hz, ent_duels n _ hz hx, cnt_twice, cnt_twice] at w
      rw [ent_duels n V hx hz, ent_duels n V hz hx] at h
      omega
  omega
theorem score_twice {rule : Int} (h1 : 1 ≤ rule) (h4 : rule ≤ 4) (n : Nat) (V : List (List Int)) : ∃ c : Int, 0 < c ∧ ∀ x, x < n → (scoreL rule n (V ++ V)).getD x 0 = c * (scoreL rule n V).getD x 0 := by
  have e : rule = 1 ∨ rule = 2 ∨ rule = 3 ∨ rule = 4 := by omega
  rcases e with rfl | rfl | rfl | rfl
  · exact ⟨2, by omega, fun x hx => by rw [score1_at n _ hx, score1_at n _ hx, fst1_twice]; omega⟩
  · exact ⟨2, by omega, fun x hx => by rw [score2_at n _ hx, score2_at n _ hx, pts_append]; omega⟩
  · refine ⟨1, by omega, fun x hx => ?_⟩
    rw [score3_at n _ hx, score3_at n _ hx, winTo_sum, winTo_sum, Int.one_mul]
    refine sumTo_congr fun z hz => ?_
    rw [ent_duels n _ hx hz, ent_duels n _ hz hx, ent_duels n _ hx hz, ent_duels n _ hz hx, cnt_twice, cnt_twice, sg_twice]
  · exact ⟨2, by omega, fun x hx => by rw [score4_at n _ hx, score4_at n _ hx, worst_twice n V hx]; omega⟩
theorem out_twice (V : List (List Int)) (left : List Int) (j : Nat) : outTo (V ++ V) left j = ((outTo V left j).1, 2 * (outTo V left j).2) := by
  induction j with
  | zero => rfl
  | succ j ih =>
    rw [outTo, outTo, ih, tops_twice]
    by_cases h : (outTo V left j).1 < 0 ∨ (tops V left (left.getD j 0) : Int) ≤ (outTo V left j).2
    · have h' : ((outTo V left j).1, 2 * (outTo V left j).2).1 < 0 ∨ ((2 * tops V left (left.getD j 0) : Nat) : Int) ≤ ((outTo V left j).1, 2 * (outTo V left j).2).2 := by
        rcases h with h | h
        · exact .inl h
        · exact .inr (by simp only; omega)
      rw [if_pos h, if_pos h']
      simp
    · rw [if_neg h, if_neg (by
        intro g
        rcases g with g | g
        · exact h (.inl g)
        · exact h (.inr (by simp only at g; omega)))]
theorem left_twice (V : List (List Int)) (n j : Nat) : leftTo (V ++ V) n j = leftTo V n j := by
  induction j with
  | zero => rfl
  | succ j ih =>
    rw [leftTo, leftTo, ih]
    unfold outOf
    rw [out_twice]
theorem win_twice {rule : Int} (h1 : 1 ≤ rule) (h5 : rule ≤ 5) (n : Nat) (V : List (List Int)) : winL rule n (V ++ V) = winL rule n V := by
  by_cases e : rule = 5
  · subst e
    show [lastOf n (V ++ V)] = [lastOf n V]
    unfold lastOf
    rw [left_twice]
  · rw [winL_score h1 (by omega), winL_score h1 (by omega)]
    obtain ⟨c, hc, hs⟩ := score_twice h1 (by omega) n V
    refine greatest_congr (by rw [scoreL_len, scoreL_len]) fun x y hx hy => ?_
    rw [scoreL_len] at hx hy
    rw [hs x hx, hs y hy]
    exact ⟨fun h => Int.le_of_mul_le_mul_left h hc, fun h => Int.mul_le_mul_of_nonneg_left h (by omega)⟩

/-! By other names. -/
section
variable {n : Nat} {N : List Int} {V : List (List Int)} (hN : N.Perm (sides n)) (hV : ∀ p ∈ V, p.Perm (sides n))
include hN hV
theorem ren_mem : ∀ p ∈ V.map (renL N), p.Perm (sides n) := fun p hp => by
  rw [List.mem_map] at hp
  obtain ⟨q, hq, rfl⟩ := hp
  exact ren_perm hN (hV q hq)
theorem cnt_ren {x y : Nat} (hx : x < n) (hy : y < n) : cnt (V.map (renL N)) (N.getD x 0) (N.getD y 0) = cnt V x y := by
  have h := cnt_other hN hV hx hy
  unfold other at h
  rw [← h]
  unfold cnt
  rw [List.countP_reverse]
theorem fst1_ren {x : Nat} (hx : x < n) : fst1 (V.map (renL N)) (N.getD x 0) = fst1 V x := by
  have h := fst1_other hN hV hx
  unfold other at h
  rw [← h]
  unfold fst1
  rw [List.countP_reverse]
theorem pts_ren {x : Nat} (hx : x < n) : pts n (V.map (renL N)) (N.getD x 0) = pts n V x := by
  have h := pts_other hN hV hx
  unfold other at h
  rw [pts_reverse] at h
  exact h
end
theorem sumTo_tot (f : Nat → Nat) (n : Nat) : sumTo (fun y => ((f y : Nat) : Int)) n = ((tot (sides n) fun y => f y.toNat : Nat) : Int) := by
  induction n with
  | zero => rfl
  | succ n ih =>
    have e : sides (n + 1) = sides n ++ [(n : Int)] := by unfold sides; rw [List.range_succ, List.map_append]; rfl
    rw [sumTo, ih, e, tot_append]
    simp [tot]
theorem sumTo_names {n : Nat} {N : List Int} (hN : N.Perm (sides n)) (f : Nat → Nat) : sumTo (fun y => ((f y : Nat) : Int)) n = sumTo (fun z => ((f (N.getD z 0).toNat : Nat) : Int)) n := by
  have hl : N.length = n := by have := hN.length_eq; rwa [sides_len] at this
  rw [sumTo_tot, sumTo_tot (fun z => f (N.getD z 0).toNat), ← tot_perm hN]
  unfold tot
  have e : N.map (fun y => f y.toNat) = (sides n).map fun y => f (N.getD y.toNat 0).toNat := by
    have h := congrArg (List.map fun y : Int => f y.toNat) (as_sides hl)
    rw [List.map_map] at h
    rw [← h]
    rfl
  rw [e]
section
variable {n : Nat} {N : List Int} {V : List (List Int)} (hN : N.Perm (sides n)) (hV : ∀ p ∈ V, p.Perm (sides n))
include hN hV
theorem ent_ren {x y x' y' : Nat} (hx : x < n) (hy : y < n) (hx' : N.getD x 0 = x') (hy' : N.getD y 0 = y') (hxn : x' < n) (hyn : y' < n) : ent (duelsM n (V.map (renL N))) x' y' = ent (duelsM n V) x y := by
  rw [ent_duels n _ hxn hyn, ent_duels n _ hx hy, ← hx', ← hy', cnt_ren hN hV hx hy]
theorem win_ren {x x' : Nat} (hx : x < n) (hx' : N.getD x 0 = x') (hxn : x' < n) : winTo (duelsM n (V.map (renL N))) x' n = winTo (duelsM n V) x n := by
  have key : ∀ M : List (List Int), ∀ z : Nat, winTo M z n = sumTo (fun y => (((sg (ent M z y - ent M y z) + 1).toNat : Nat) : Int)) n - n := fun M z => by
    have h1 : ∀ d : Int, 0 ≤ sg d + 1 := fun d => by
      unfold sg
      split
      · omega
      · split <;> omega
    have h2 : sumTo (fun y => (((sg (ent M z y - ent M y z) + 1).toNat : Nat) : Int)) n = sumTo (fun y => sg (ent M z y - ent M y z)) n + sumTo (fun _ => 1) n := by
      rw [← sumTo_add]
      exact sumTo_congr fun y hy => by have := h1 (ent M z y - ent M y z); omega
    rw [h2, sumTo_const, winTo_sum]
    omega
  rw [key, key, sumTo_names hN]
  congr 1
  refine sumTo_congr fun y hy => ?_
  obtain ⟨y', hyn, hye⟩ := names_getD hN hy
  have e : (N.getD y 0).toNat = y' := by omega
  rw [e, ent_ren hN hV hx hy hx' hye hxn hyn, ent_ren hN hV hy hx hye hx' hyn hxn]
theorem worst_ren {x x' : Nat} (hx : x < n) (hx' : N.getD x 0 = x') (hxn : x' < n) : worstTo (duelsM n (V.map (renL N))) x' n = worstTo (duelsM n V) x n := by
  apply Int.le_antisymm
  · rcases worst_att (duelsM n (V.map (renL N))) x' n with h | ⟨y', hy', h⟩
    · rw [h]; exact worstTo_nonneg _ _ _
    · obtain ⟨y, hy, hye⟩ := names_onto hN hy'
      rw [ent_ren hN hV hy hx hye hx' hy' hxn, ent_ren hN hV hx hy hx' hye hxn hy'] at h
      rw [← h]
      exact worst_ge _ _ hy
  · rcases worst_att (duelsM n V) x n with h | ⟨y, hy, h⟩
    · rw [h]; exact worstTo_nonneg _ _ _
    · obtain ⟨y', hyn, hye⟩ := names_getD hN hy
      rw [← ent_ren hN hV hy hx hye hx' hyn hxn, ← ent_ren hN hV hx hy hx' hye hxn hyn] at h
      rw [← h]
      exact worst_ge _ _ hyn
theorem score_ren {rule : Int} (h1 : 1 ≤ rule) (h4 : rule ≤ 4) {x x' : Nat} (hx : x < n) (hx' : N.getD x 0 = x') (hxn : x' < n) : (scoreL rule n (V.map (renL N))).getD x' 0 = (scoreL rule n V).getD x 0 := by
  have e : rule = 1 ∨ rule = 2 ∨ rule = 3 ∨ rule = 4 := by omega
  rcases e with rfl | rfl | rfl | rfl
  · rw [score1_at n _ hxn, score1_at n _ hx, ← hx', fst1_ren hN hV hx]
  · rw [score2_at n _ hxn, score2_at n _ hx, ← hx', pts_ren hN hV hx]
  · rw [score3_at n _ hxn, score3_at n _ hx, win_ren hN hV hx hx' hxn]
  · rw [score4_at n _ hxn, score4_at n _ hx, worst_ren hN hV hx hx' hxn]
theorem great_ren {rule : Int} (h1 : 1 ≤ rule) (h4 : rule ≤ 4) {x x' : Nat} (hx : x < n) (hx' : N.getD x 0 = x') (hxn : x' < n) : (scoreL rule n (V.map (renL N))).getD x' 0 = most (scoreL rule n (V.map (renL N))) ↔ (scoreL rule n V).getD x 0 = most (scoreL rule n V) := by
  rw [great_iff (by rw [scoreL_len]; exact hxn), great_iff (by rw [scoreL_len]; exact hx), scoreL_len, scoreL_len, score_ren hN hV h1 h4 hx hx' hxn]
  constructor
  · intro h y hy
    obtain ⟨y', hyn, hye⟩ := names_getD hN hy
    have := h y' hyn
    rwa [score_ren hN hV h1 h4 hy hye hyn] at this
  · intro h y' hy'
    obtain ⟨y, hy, hye⟩ := names_onto hN hy'
    rw [score_ren hN hV h1 h4 hy hye hy']
    exact h y hy
theorem wins_ren {rule : Int} (h1 : 1 ≤ rule) (h4 : rule ≤ 4) : (∀ y ∈ winL rule n V, 0 ≤ y ∧ y < n ∧ N.getD y.toNat 0 ∈ winL rule n (V.map (renL N))) ∧ (winL rule n V).length = (winL rule n (V.map (renL N))).length := by
  have hl : N.length = n := by have := hN.length_eq; rwa [sides_len] at this
  rw [winL_score h1 h4, winL_score h1 h4]
  constructor
  · intro y hy
    have hr := greatest_rng hy
    rw [scoreL_len] at hr
    obtain ⟨x, rfl⟩ : ∃ x : Nat, y = x := ⟨y.toNat, by omega⟩
    have hx : x < n := by omega
    obtain ⟨x', hxn, hx'⟩ := names_getD hN hx
    refine ⟨by omega, by omega, ?_⟩
    rw [Int.toNat_natCast, hx']
    exact mem_greatest.2 ⟨by rw [scoreL_len]; exact hxn, (great_ren hN hV h1 h4 hx hx' hxn).2 (mem_greatest.1 hy).2⟩
  · have key : ∀ l : List Int, l.length = n → (greatest l).length = (sides n).countP fun z => decide (l.getD z.toNat 0 = most l) := fun l hln => by
      unfold greatest greatTo
      rw [List.length_map, hln, ← List.countP_eq_length_filter]
      unfold sides
      rw [List.countP_map]
      rfl
    rw [key _ (scoreL_len _ _ _), key _ (scoreL_len _ _ _), ← hN.countP_eq fun z => decide ((scoreL rule n (V.map (renL N))).getD z.toNat 0 = most (scoreL rule n (V.map (renL N))))]
    have h := congrArg (List.countP fun z : Int => decide ((scoreL rule n (V.map (renL N))).getD z.toNat 0 = most (scoreL rule n (V.map (renL N))))) (as_sides hl)
    rw [← h, List.countP_map]
    refine List.countP_congr fun z hz => ?_
    have hz := mem_sides.1 hz
    obtain ⟨x, rfl⟩ : ∃ x : Nat, z = x := ⟨z.toNat, by omega⟩
    have hx : x < n := by omega
    obtain ⟨x', hxn, hx'⟩ := names_getD hN hx
    simp only [Function.comp_apply, Int.toNat_natCast, decide_eq_true_eq, hx']
    exact (great_ren hN hV h1 h4 hx hx' hxn).symm
end
end Fm

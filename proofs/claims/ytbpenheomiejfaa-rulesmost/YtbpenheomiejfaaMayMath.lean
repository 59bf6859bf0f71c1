/-
  Votes of two: every rule goes by who is first on more ballots: lists of ints alone, no Go text.
-/
import Derived.Test.YtbpenheomiejfaaRuleMath
namespace Fm
set_option linter.unusedVariables false

theorem votesOf_v0 {n : Nat} (h1 : 1 ≤ n) (h6 : n ≤ 6) (L : List (List Int)) : vchk n (votesOf n L) = 0 :=
  vchk_ok (by omega) (by rw [votesOf_len]; omega) (fun l hl => chk_perm (votesOf_mem hl) h1 h6)
/-- Who is first on a ballot. -/
theorem first_pos {n : Nat} {p : List Int} (hp : p.Perm (sides n)) (hn : 1 ≤ n) {x : Nat} (hx : x < n) : p.getD 0 0 = x ↔ pos p x = 0 := by
  have hnd := hp.nodup_iff.2 (sides_nodup n)
  have hl : p.length = n := by have := hp.length_eq; rwa [sides_len] at this
  have h0 := pos_idx hnd (k := 0) (by omega)
  have hm : (x : Int) ∈ p := hp.mem_iff.2 (mem_sides.2 ⟨by omega, by omega⟩)
  constructor
  · intro h; rw [← h]; exact h0
  · intro h
    exact pos_inj hnd (getD_mem p 0 (by omega)) hm (by rw [h0, h]; rfl)
theorem two_pos {p : List Int} (hp : p.Perm (sides 2)) : (pos p 0 = 0 ∧ pos p 1 = 1) ∨ (pos p 0 = 1 ∧ pos p 1 = 0) := by
  have a := pos_range hp (x := 0) (by omega)
  have b := pos_range hp (x := 1) (by omega)
  have hnd := hp.nodup_iff.2 (sides_nodup 2)
  have m0 : (0 : Int) ∈ p := hp.mem_iff.2 (mem_sides.2 ⟨by omega, by omega⟩)
  have m1 : (1 : Int) ∈ p := hp.mem_iff.2 (mem_sides.2 ⟨by omega, by omega⟩)
  have hne : pos p 0 ≠ pos p 1 := fun h => by have := pos_inj hnd m0 m1 h; cases this
  simp at a b
  omega
section
variable {V : List (List Int)} (hV : ∀ p ∈ V, p.Perm (sides 2))
include hV
theorem two_cnt : cnt V 0 1 = fst1 V 0 ∧ cnt V 1 0 = fst1 V 1 := by
  constructor
  · unfold cnt fst1
    refine List.countP_congr (fun p hp => ?_)
    have := two_pos (hV p hp)
    simp; omega
  · unfold cnt fst1
    refine List.countP_congr (fun p hp => ?_)
    have := two_pos (hV p hp)
    simp; omega
theorem two_pts : pts 2 V 0 = fst1 V 0 ∧ pts 2 V 1 = fst1 V 1 := by
  induction V with
  | nil => simp [pts, fst1]
  | cons p V ih =>
    obtain ⟨i1, i2⟩ := ih (fun q hq => hV q (by simp [hq]))
    have h := two_pos (hV p (by simp))
    simp only [pts]
    unfold fst1 at *
    rw [List.countP_cons, List.countP_cons, i1, i2]
    rcases h with ⟨a, b⟩ | ⟨a, b⟩
    · simp [a, b]; omega
    · simp [a, b]; omega
theorem two_tops (x : Nat) (hx : x < 2) : tops V (sides 2) x = fst1 V x := by
  unfold tops fst1
  refine List.countP_congr (fun p hp => ?_)
  have e : onlyIn (sides 2) p = p := by
    unfold onlyIn
    rw [List.filter_eq_self]
    intro y hy
    simpa using (hV p hp).mem_iff.1 hy
  rw [e]
  have := first_pos (hV p hp) (by omega) hx
  simp only [decide_eq_true_eq]
  exact this
end
/-- The places of the greater of two. -/
def two (a b : Int) : List Int := if b < a then [0] else if a < b then [1] else [0, 1]
theorem greatest_two (a b : Int) : greatest [a, b] = two a b := by
  have hm : most [a, b] = max a b := by unfold most; simp
  unfold greatest greatTo
  rw [hm]
  have hr : List.range ([a, b] : List Int).length = [0, 1] := rfl
  rw [hr]
  unfold two
  by_cases h1 : b < a
  · have e : max a b = a := by omega
    have h2 : ¬ b = a := by omega
    rw [if_pos h1, e]; simp [h2]
  · rw [if_neg h1]
    by_cases h2 : a < b
    · have e : max a b = b := by omega
      have h3 : ¬ a = b := by omega
      rw [if_pos h2, e]; simp [h3]
    · have h3 : a = b := by omega
      subst h3
      simp
theorem two_sg (a b : Int) : two (sg (a - b)) (sg (b - a)) = two a b := by
  unfold two
  rcases Int.lt_trichotomy a b with h | h | h
  · have s1 : sg (a - b) = -1 := by unfold sg; rw [if_neg (by omega), if_pos (by omega)]
    have s2 : sg (b - a) = 1 := sg_one.2 (by omega)
    rw [s1, s2, if_neg (by decide), if_pos (by decide), if_neg (by omega), if_pos h]
  · subst h; simp
  · have s1 : sg (a - b) = 1 := sg_one.2 (by omega)
    have s2 : sg (b - a) = -1 := by unfold sg; rw [if_neg (by omega), if_pos (by omega)]
    rw [s1, s2, if_pos (by decide), if_pos h]
theorem sides_two : sides 2 = [0, 1] := rfl
theorem may_win {V : List (List Int)} (hV : ∀ p ∈ V, p.Perm (sides 2)) {rule : Int} (h1 : 1 ≤ rule) (h5 : rule ≤ 5) :
    winL rule 2 V = if (fst1 V 1 : Int) < fst1 V 0 then [0] else if (fst1 V 0 : Int) < fst1 V 1 then [1] else if rule = 5 then [0] else [0, 1] := by
  obtain ⟨c1, c2⟩ := two_cnt hV
  obtain ⟨p1, p2⟩ := two_pts hV
  have t0 := two_tops hV 0 (by omega)
  have t1 := two_tops hV 1 (by omega)
  have ef : firstsL 2 V = [(fst1 V 0 : Int), fst1 V 1] := rfl
  have ep : pointsL 2 V = [(fst1 V 0 : Int), fst1 V 1] := by unfold pointsL; rw [sides_two]; simp [p1, p2]
  have d00 : ent (duelsM 2 V) 0 0 = cnt V 0 0 := ent_duels 2 V (by omega) (by omega)
  have d01 : ent (duelsM 2 V) 0 1 = fst1 V 0 := by rw [ent_duels 2 V (by omega) (by omega)]; exact congrArg _ c1
  have d10 : ent (duelsM 2 V) 1 0 = fst1 V 1 := by rw [ent_duels 2 V (by omega) (by omega)]; exact congrArg _ c2
  unfold winL
  by_cases e1 : rule = 1
  · rw [if_pos e1, ef, greatest_two, if_neg (show ¬ rule = 5 by omega)]; rfl
  · rw [if_neg e1]
    by_cases e2 : rule = 2
    · rw [if_pos e2, ep, greatest_two, if_neg (show ¬ rule = 5 by omega)]; rfl
    · rw [if_neg e2]
      by_cases e3 : rule = 3
      · rw [if_pos e3, if_neg (show ¬ rule = 5 by omega)]
        have ew : winsL 2 (duelsM 2 V) = [sg ((fst1 V 0 : Int) - fst1 V 1), sg ((fst1 V 1 : Int) - fst1 V 0)] := by
          unfold winsL
          rw [sides_two]
          simp only [List.map_cons, List.map_nil]
          have a : winTo (duelsM 2 V) (0 : Int).toNat 2 = sg ((fst1 V 0 : Int) - fst1 V 1) := by
            show winTo (duelsM 2 V) 0 2 = _
            simp only [winTo, d01, d10, Int.sub_self]
            simp [sg]
          have b : winTo (duelsM 2 V) (1 : Int).toNat 2 = sg ((fst1 V 1 : Int) - fst1 V 0) := by
            show winTo (duelsM 2 V) 1 2 = _
            simp only [winTo, d01, d10, Int.sub_self]
            simp [sg]
          rw [a, b]
        rw [ew, greatest_two, two_sg]; rfl
      · rw [if_neg e3]
        by_cases e4 : rule = 4
        · rw [if_pos e4, if_neg (show ¬ rule = 5 by omega)]
          have ew : (worstL 2 (duelsM 2 V)).map (fun x => -x) = [-(max 0 (-((fst1 V 0 : Int) - fst1 V 1))), -(max 0 (-((fst1 V 1 : Int) - fst1 V 0)))] := by
            unfold worstL
            rw [sides_two]
            simp only [List.map_cons, List.map_nil]
            have a : worstTo (duelsM 2 V) (0 : Int).toNat 2 = max 0 (-((fst1 V 0 : Int) - fst1 V 1)) := by
              show worstTo (duelsM 2 V) 0 2 = _
              simp only [worstTo, d01, d10, Int.sub_self]
              omega
            have b : worstTo (duelsM 2 V) (1 : Int).toNat 2 = max 0 (-((fst1 V 1 : Int) - fst1 V 0)) := by
              show worstTo (duelsM 2 V) 1 2 = _
              simp only [worstTo, d01, d10, Int.sub_self]
              omega
            rw [a, b]
          rw [ew, greatest_two]
          unfold two
          by_cases g1 : (fst1 V 1 : Int) < fst1 V 0
          · rw [if_pos g1, if_pos (by omega)]
          · rw [if_neg g1]
            by_cases g2 : (fst1 V 0 : Int) < fst1 V 1
            · rw [if_pos g2, if_neg (by omega), if_pos (by omega)]
            · rw [if_neg g2, if_neg (by omega), if_neg (by omega)]
        · rw [if_neg e4]
          have e5 : rule = 5 := by omega
          rw [if_pos e5]
          have eo : outOf V (sides 2) = if (fst1 V 1 : Int) ≤ fst1 V 0 then 1 else 0 := by
            unfold outOf
            show (outTo V (sides 2) 2).1 = _
            have o1 : outTo V (sides 2) 1 = (0, (fst1 V 0 : Int)) := by
              rw [outTo]
              rw [if_pos (by left; show (-1 : Int) < 0; decide)]
              show ((0 : Int), ((tops V (sides 2) 0 : Nat) : Int)) = _
              rw [show tops V (sides 2) 0 = fst1 V 0 from t0]
            rw [outTo, o1]
            show (if (0 : Int) < 0 ∨ ((tops V (sides 2) 1 : Nat) : Int) ≤ (fst1 V 0 : Int) then ((1 : Int), ((tops V (sides 2) 1 : Nat) : Int)) else (0, (fst1 V 0 : Int))).1 = _
            rw [show tops V (sides 2) 1 = fst1 V 1 from t1]
            by_cases g : (fst1 V 1 : Int) ≤ fst1 V 0
            · rw [if_pos (.inr g), if_pos g]
            · rw [if_neg (by omega), if_neg g]
          have el : lastOf 2 V = if (fst1 V 1 : Int) ≤ fst1 V 0 then 0 else 1 := by
            unfold lastOf
            show ((sides 2).filter fun x => !(x == outOf V (sides 2))).getD 0 0 = _
            rw [eo, sides_two]
            by_cases g : (fst1 V 1 : Int) ≤ fst1 V 0
            · rw [if_pos g, if_pos g]; rfl
            · rw [if_neg g, if_neg g]; rfl
          rw [el]
          by_cases g1 : (fst1 V 1 : Int) < fst1 V 0
          · rw [if_pos g1, if_pos (by omega)]
          · rw [if_neg g1]
            by_cases g2 : (fst1 V 0 : Int) < fst1 V 1
            · rw [if_pos g2, if_neg (by omega)]
            · rw [if_neg g2, if_pos (by omega)]
end Fm

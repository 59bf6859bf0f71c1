/-
  Votes that are turned: each duel is the other way round; a side's points are those that it lacked.
-/
import Derived.Test.YtbpenheomiejfaaSumsMath
namespace Fm
set_option linter.unusedVariables false

theorem pos_reverse {n : Nat} {p : List Int} (hp : p.Perm (sides n)) {x : Nat} (hx : x < n) : pos p.reverse x = (n : Int) - 1 - pos p x := by
  have hnd := hp.nodup_iff.2 (sides_nodup n)
  have hl := hp.length_eq
  rw [sides_len] at hl
  obtain ⟨k, hk, hkx, hpk⟩ := pos_mem hnd (y := (x : Int)) (hp.mem_iff.2 (mem_sides.2 ⟨by omega, by omega⟩))
  have hg : p.reverse.getD (n - 1 - k) 0 = x := by
    have hlt : n - 1 - k < p.reverse.length := by rw [List.length_reverse]; omega
    rw [getD_get hlt, List.getElem_reverse, ← hkx, getD_get hk]
    congr 1
    omega
  have h := pos_idx (p := p.reverse) ((List.reverse_perm p).nodup_iff.2 hnd) (k := n - 1 - k) (by rw [List.length_reverse]; omega)
  rw [hg] at h
  rw [h, hpk]
  omega
theorem turned_mem {n : Nat} {V : List (List Int)} (hV : ∀ p ∈ V, p.Perm (sides n)) : ∀ p ∈ V.map List.reverse, p.Perm (sides n) := fun p hp => by
  rw [List.mem_map] at hp
  obtain ⟨q, hq, rfl⟩ := hp
  exact (List.reverse_perm q).trans (hV q hq)
theorem cnt_turned {n : Nat} {V : List (List Int)} (hV : ∀ p ∈ V, p.Perm (sides n)) {x y : Nat} (hx : x < n) (hy : y < n) : cnt (V.map List.reverse) y x = cnt V x y := by
  unfold cnt
  rw [List.countP_map]
  refine List.countP_congr (fun p hp => ?_)
  simp only [Function.comp_apply, decide_eq_true_eq]
  rw [pos_reverse (hV p hp) hx, pos_reverse (hV p hp) hy]
  omega
theorem pts_turned {n : Nat} {V : List (List Int)} (hV : ∀ p ∈ V, p.Perm (sides n)) {x : Nat} (hx : x < n) : pts n V x + pts n (V.map List.reverse) x = ((n : Int) - 1) * V.length := by
  induction V with
  | nil => simp [pts]
  | cons p V ih =>
    have hp := hV p (List.mem_cons_self ..)
    have ih := ih fun q hq => hV q (List.mem_cons_of_mem _ hq)
    simp only [List.map_cons, pts, List.length_cons]
    rw [pos_reverse hp hx]
    have e : ((n : Int) - 1) * ((V.length + 1 : Nat) : Int) = ((n : Int) - 1) * (V.length : Int) + ((n : Int) - 1) := by
      push_cast
      rw [Int.mul_add, Int.mul_one]
    omega
theorem pts_bd {n : Nat} {V : List (List Int)} (hV : ∀ p ∈ V, p.Perm (sides n)) {x : Nat} (hx : x < n) (h30 : V.length ≤ 30) (h6 : n ≤ 6) : 0 ≤ pts n V x ∧ pts n V x ≤ 180 := by
  have h := sum_duels hV hx
  have hb := tot_le_sides n (fun y => cnt V x y) 30 (fun y => by have := cnt_le V x y; omega)
  omega
end Fm

/-
  Votes by other names, and in the other order: the counts are the same by the other names.
-/
import Derived.Test.YtobioglccgfkdaaPureA
import Derived.Test.YtobioglccgfkdaaCRenamed
namespace Fm
open Go.Proofs.Ytobioglccgfkdaa
set_option linter.unusedVariables false
section
variable {n : Nat} {N : List Int}
theorem names_getD (hN : N.Perm (sides n)) {x : Nat} (hx : x < n) : ∃ y : Nat, y < n ∧ N.getD x 0 = y := by
  have hl := hN.length_eq
  rw [sides_len] at hl
  have hm : N.getD x 0 ∈ N := by rw [getD_get (by omega)]; exact List.getElem_mem (by omega)
  have := mem_sides.1 (hN.mem_iff.1 hm)
  exact ⟨(N.getD x 0).toNat, by omega, by omega⟩
theorem names_inj (hN : N.Perm (sides n)) {x y : Nat} (hx : x < n) (hy : y < n) (h : N.getD x 0 = N.getD y 0) : x = y := by
  have hl := hN.length_eq
  rw [sides_len] at hl
  have hnd := hN.nodup_iff.2 (sides_nodup n)
  have a := pos_idx hnd (k := x) (by omega)
  have b := pos_idx hnd (k := y) (by omega)
  rw [h, b] at a
  omega
theorem names_onto (hN : N.Perm (sides n)) {y : Nat} (hy : y < n) : ∃ x : Nat, x < n ∧ N.getD x 0 = y := by
  have hl := hN.length_eq
  rw [sides_len] at hl
  obtain ⟨k, hk, h1, _⟩ := pos_mem (hN.nodup_iff.2 (sides_nodup n)) (y := (y : Int)) (hN.mem_iff.2 (mem_sides.2 ⟨by omega, by omega⟩))
  exact ⟨k, by omega, h1⟩
theorem as_sides (hN : N.length = n) : (sides n).map (fun z => N.getD z.toNat 0) = N := by rw [← hN]; exact (as_map N).symm
theorem ren_perm (hN : N.Perm (sides n)) {p : List Int} (hp : p.Perm (sides n)) : (renL N p).Perm (sides n) := by
  have hl := hN.length_eq
  rw [sides_len] at hl
  have h := hp.map (fun x => N.getD x.toNat 0)
  rw [as_sides hl] at h
  exact h.trans hN
theorem pos_ren (hN : N.Perm (sides n)) {p : List Int} (hp : p.Perm (sides n)) {x : Nat} (hx : x < n) : pos (renL N p) (N.getD x 0) = pos p x := by
  have hnd := hp.nodup_iff.2 (sides_nodup n)
  obtain ⟨k, hk, hkx, hpk⟩ := pos_mem hnd (y := (x : Int)) (hp.mem_iff.2 (mem_sides.2 ⟨by omega, by omega⟩))
  have hlr : (renL N p).length = p.length := by simp [renL]
  have hg : (renL N p).getD k 0 = N.getD x 0 := by
    rw [getD_get (by omega)]
    unfold renL
    rw [List.getElem_map, ← getD_get hk, hkx]
    rfl
  have h := pos_idx ((ren_perm hN hp).nodup_iff.2 (sides_nodup n)) (k := k) (by omega)
  rw [hg] at h
  rw [h, hpk]
theorem pts_reverse (n : Nat) (V : List (List Int)) (x : Int) : pts n V.reverse x = pts n V x := by
  induction V with
  | nil => rfl
  | cons p V ih => rw [List.reverse_cons, pts_snoc, ih]; simp only [pts]; omega
/-- The votes by the names N, in the other order. -/
def other (N : List Int) (V : List (List Int)) : List (List Int) := (V.map (renL N)).reverse
theorem other_len (N : List Int) (V : List (List Int)) : (other N V).length = V.length := by simp [other]
variable {V : List (List Int)}
theorem other_mem (hN : N.Perm (sides n)) (hV : ∀ p ∈ V, p.Perm (sides n)) : ∀ p ∈ other N V, p.Perm (sides n) := fun p hp => by
  unfold other at hp
  rw [List.mem_reverse, List.mem_map] at hp
  obtain ⟨q, hq, rfl⟩ := hp
  exact ren_perm hN (hV q hq)
theorem cnt_other (hN : N.Perm (sides n)) (hV : ∀ p ∈ V, p.Perm (sides n)) {x y : Nat} (hx : x < n) (hy : y < n) : cnt (other N V) (N.getD x 0) (N.getD y 0) = cnt V x y := by
  unfold cnt other
  rw [List.countP_reverse, List.countP_map]
  refine List.countP_congr (fun p hp => ?_)
  simp only [Function.comp_apply, decide_eq_true_eq]
  rw [pos_ren hN (hV p hp) hx, pos_ren hN (hV p hp) hy]
theorem fst1_other (hN : N.Perm (sides n)) (hV : ∀ p ∈ V, p.Perm (sides n)) {x : Nat} (hx : x < n) : fst1 (other N V) (N.getD x 0) = fst1 V x := by
  unfold fst1 other
  rw [List.countP_reverse, List.countP_map]
  refine List.countP_congr (fun p hp => ?_)
  simp only [Function.comp_apply, decide_eq_true_eq]
  rw [pos_ren hN (hV p hp) hx]
theorem pts_other (hN : N.Perm (sides n)) (hV : ∀ p ∈ V, p.Perm (sides n)) {x : Nat} (hx : x < n) : pts n (other N V) (N.getD x 0) = pts n V x := by
  unfold other
  rw [pts_reverse]
  induction V with
  | nil => rfl
  | cons p V ih =>
    simp only [List.map_cons, pts]
    rw [pos_ren hN (hV p (List.mem_cons_self ..)) hx, ih fun q hq => hV q (List.mem_cons_of_mem _ hq)]
theorem beats_other (hN : N.Perm (sides n)) (hV : ∀ p ∈ V, p.Perm (sides n)) {x x' : Nat} (hx : x < n) (hx' : N.getD x 0 = x') : Beats n (other N V) x' ↔ Beats n V x := by
  obtain ⟨z, hz, hze⟩ := names_getD hN hx
  have hzz : z = x' := by rw [hx'] at hze; omega
  subst hzz
  constructor
  · intro h
    refine ⟨hx, fun y hy hne => ?_⟩
    obtain ⟨y', hy', hye⟩ := names_getD hN hy
    have h2 := h.2 y' hy' (fun e => hne (names_inj hN hy hx (by rw [hye, hx', e])))
    rw [← hye, ← hx', cnt_other hN hV hy hx, cnt_other hN hV hx hy] at h2
    exact h2
  · intro h
    refine ⟨hz, fun y' hy' hne => ?_⟩
    obtain ⟨y, hy, hye⟩ := names_onto hN hy'
    have h2 := h.2 y hy (fun e => hne (by have := hye; rw [e, hx'] at this; omega))
    rw [← hye, ← hx', cnt_other hN hV hy hx, cnt_other hN hV hx hy]
    exact h2
end
end Fm

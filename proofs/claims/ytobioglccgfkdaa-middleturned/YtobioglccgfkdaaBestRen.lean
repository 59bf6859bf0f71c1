/-
  The nearest order by other names: as near: lists of ints alone.
-/
import Derived.Test.YtobioglccgfkdaaBestMath
import Derived.Test.YtobioglccgfkdaaRenMath
namespace Fm
open Go.Proofs.Ytobioglccgfkdaa
set_option linter.unusedVariables false

theorem far_ren {n : Nat} {N : List Int} (hN : N.Perm (sides n)) {V : List (List Int)} (hV : ∀ q ∈ V, q.Perm (sides n)) {p : List Int} (hp : p.Perm (sides n)) : farT (V.map (renL N)) (renL N p) = farT V p := by
  have hl : N.length = n := by have := hN.length_eq; rwa [sides_len] at this
  rw [far_cnt (ren_mem hN hV) (ren_perm hN hp), far_cnt hV hp]
  have e : ∀ φ : Int → Nat, tot (sides n) φ = tot (sides n) fun x => φ (N.getD x.toNat 0) := fun φ => by
    rw [← tot_perm hN]
    unfold tot
    have h := congrArg (List.map φ) (as_sides hl)
    rw [List.map_map] at h
    rw [← h]
    rfl
  rw [e]
  refine tot_congr fun x hx => ?_
  rw [e]
  refine tot_congr fun y hy => ?_
  have hx' := mem_sides.1 hx
  have hy' := mem_sides.1 hy
  obtain ⟨a, rfl⟩ : ∃ a : Nat, x = a := ⟨x.toNat, by omega⟩
  obtain ⟨b, rfl⟩ : ∃ b : Nat, y = b := ⟨y.toNat, by omega⟩
  have ha : a < n := by omega
  have hb : b < n := by omega
  rw [Int.toNat_natCast, Int.toNat_natCast, pos_ren hN hp ha, pos_ren hN hp hb, cnt_ren hN hV hb ha]
/-- The names back. -/
def backL (n : Nat) (N : List Int) : List Int := (sides n).map fun y => pos N y
theorem back_at {n : Nat} {N : List Int} (hN : N.Perm (sides n)) {x : Nat} (hx : x < n) : (backL n N).getD (N.getD x 0).toNat 0 = x := by
  have hl : N.length = n := by have := hN.length_eq; rwa [sides_len] at this
  obtain ⟨y, hy, hye⟩ := names_getD hN hx
  unfold backL
  have e : (N.getD x 0).toNat = y := by omega
  rw [e, map_sides_getD n _ hy, ← hye]
  exact pos_idx (hN.nodup_iff.2 (sides_nodup n)) (by omega)
theorem back_ren {n : Nat} {N : List Int} (hN : N.Perm (sides n)) {p : List Int} (hp : p.Perm (sides n)) : renL (backL n N) (renL N p) = p := by
  unfold renL
  rw [List.map_map]
  have : p.map ((fun x => (backL n N).getD x.toNat 0) ∘ fun x => N.getD x.toNat 0) = p.map id := by
    apply List.map_congr_left
    intro z hz
    have hz := mem_sides.1 (hp.mem_iff.1 hz)
    obtain ⟨x, rfl⟩ : ∃ x : Nat, z = x := ⟨z.toNat, by omega⟩
    simp only [Function.comp_apply, Int.toNat_natCast, id_eq]
    exact back_at hN (by omega)
  rw [this, List.map_id]
theorem back_perm {n : Nat} {N : List Int} (hN : N.Perm (sides n)) : (backL n N).Perm (sides n) := by
  have hl : N.length = n := by have := hN.length_eq; rwa [sides_len] at this
  have h : (backL n N).Perm (N.map fun y => pos N y) := (hN.symm.map _)
  have e : N.map (fun y => pos N y) = sides n := by
    apply eq_sides (by rw [List.length_map]; exact hl)
    intro j hj
    rw [getD_get (by rw [List.length_map]; omega), List.getElem_map, ← getD_get (by omega)]
    exact pos_idx (hN.nodup_iff.2 (sides_nodup n)) (by omega)
  rw [e] at h
  exact h
theorem least_ren {n : Nat} (h1 : 1 ≤ n) (h6 : n ≤ 6) {N : List Int} (hN : N.Perm (sides n)) {V : List (List Int)} (hV : ∀ q ∈ V, q.Perm (sides n)) : leastN n (V.map (renL N)) = leastN n V := by
  apply Int.le_antisymm
  · exact least_le h1 h6 (renL N) fun p hp => ⟨ren_perm hN hp, far_ren hN hV hp⟩
  · refine least_le h1 h6 (renL (backL n N)) fun p hp => ⟨ren_perm (back_perm hN) hp, ?_⟩
    have h := far_ren (back_perm hN) (ren_mem hN hV) hp
    have e : (V.map (renL N)).map (renL (backL n N)) = V := by
      rw [List.map_map]
      have : V.map (renL (backL n N) ∘ renL N) = V.map id := by
        apply List.map_congr_left
        intro q hq
        exact back_ren hN (hV q hq)
      rw [this, List.map_id]
    rw [e] at h
    exact h
end Fm

/-
  Neighbours exchanged, and the reversed order: lists of ints alone, no Go text.
-/
import Derived.Test.YtdbejalcedpdjaaOrdMath
namespace Fm
set_option linter.unusedVariables false

def swp (p : List Int) (k : Nat) : List Int := (p.set k (p.getD (k + 1) 0)).set (k + 1) (p.getD k 0)
theorem swp_len (p : List Int) (k : Nat) : (swp p k).length = p.length := by simp [swp]
theorem getD_set (l : List Int) (i j : Nat) (x : Int) (hi : i < l.length) : (l.set i x).getD j 0 = if i = j then x else l.getD j 0 := by
  rw [List.getD_eq_getElem?_getD, List.getD_eq_getElem?_getD, List.getElem?_set]
  by_cases h : i = j
  · subst h; simp [hi]
  · simp [h]
/-- Places k and k + 1 exchanged. -/
def tau (k : Nat) (z : Int) : Int := if z = k then k + 1 else if z = k + 1 then k else z
theorem swp_getD (p : List Int) (k j : Nat) (h : k + 1 < p.length) : (swp p k).getD j 0 = p.getD (tau k j).toNat 0 := by
  unfold swp
  rw [getD_set _ _ _ _ (by simp; omega), getD_set _ _ _ _ (by omega)]
  unfold tau
  by_cases h1 : k + 1 = j
  · rw [if_pos h1, if_neg (by omega), if_pos (by omega)]; congr 1
  · by_cases h2 : k = j
    · rw [if_neg h1, if_pos h2, if_pos (by omega)]; congr 1
    · rw [if_neg h1, if_neg h2, if_neg (by omega), if_neg (by omega)]; congr 1
theorem tau_tau (k : Nat) (z : Int) : tau k (tau k z) = z := by
  unfold tau
  by_cases h : z = k
  · simp [h]
  · by_cases h2 : z = k + 1
    · simp [h2]
    · simp [h, h2]
theorem tau_range {k n : Nat} (h : k + 1 < n) {j : Nat} (hj : j < n) : 0 ≤ tau k j ∧ tau k j < n := by
  unfold tau
  split
  · omega
  · split <;> omega
theorem swp_perm (p : List Int) (k : Nat) (h : k + 1 < p.length) : (swp p k).Perm p := by
  have e1 : p = p.take k ++ p.getD k 0 :: p.getD (k + 1) 0 :: p.drop (k + 2) := by
    rw [getD_get (by omega), getD_get (by omega), ← List.drop_eq_getElem_cons (by omega), ← List.drop_eq_getElem_cons (by omega), List.take_append_drop]
  have e2 : swp p k = p.take k ++ p.getD (k + 1) 0 :: p.getD k 0 :: p.drop (k + 2) := by
    apply List.ext_getElem?
    intro j
    unfold swp
    rw [List.getElem?_set, List.getElem?_set, List.getElem?_append, List.length_take, Nat.min_eq_left (by omega), List.length_set, List.getElem?_take]
    by_cases h1 : j < k
    · rw [if_neg (by omega), if_neg (by omega), if_pos h1, if_pos h1]
    · by_cases h2 : j = k
      · subst h2
        rw [if_neg (by omega), if_pos rfl, if_pos (by omega), if_neg h1, Nat.sub_self]; rfl
      · by_cases h3 : j = k + 1
        · subst h3
          rw [if_pos rfl, if_pos (by omega), if_neg h1, show k + 1 - k = 1 by omega]; rfl
        · rw [if_neg (by omega), if_neg (by omega), if_neg h1]
          obtain ⟨m, rfl⟩ : ∃ m, j = k + 2 + m := ⟨j - (k + 2), by omega⟩
          rw [show k + 2 + m - k = m + 2 by omega]
          simp [List.getElem?_drop]
  have hp : (p.take k ++ p.getD (k + 1) 0 :: p.getD k 0 :: p.drop (k + 2)).Perm (p.take k ++ p.getD k 0 :: p.getD (k + 1) 0 :: p.drop (k + 2)) := List.Perm.append_left _ (List.Perm.swap _ _ _)
  rw [← e1, ← e2] at hp
  exact hp

theorem pos_reverse {p : List Int} {n : Nat} (hn : p.Nodup) (hl : p.length = n) {k : Nat} (hk : k < n) : pos p.reverse (p.getD k 0) = (n : Int) - 1 - k := by
  have h1 : p.reverse.Nodup := (List.reverse_perm p).nodup_iff.2 hn
  have h2 : p.reverse.getD (n - 1 - k) 0 = p.getD k 0 := by
    rw [getD_get (by simp; omega), getD_get (by omega), List.getElem_reverse]
    congr 1
    omega
  rw [← h2, pos_idx h1 (by simp; omega)]
  omega
theorem pos_swp {p : List Int} {n : Nat} (hn : p.Nodup) (hl : p.length = n) {j : Nat} (hj : j + 1 < n) {k : Nat} (hk : k < n) : pos (swp p j) (p.getD k 0) = tau j k := by
  have h1 : (swp p j).Nodup := (swp_perm p j (by omega)).nodup_iff.2 hn
  have hr := tau_range hj hk
  have h2 : (swp p j).getD (tau j k).toNat 0 = p.getD k 0 := by
    rw [swp_getD _ _ _ (by omega), show (((tau j k).toNat : Nat) : Int) = tau j k by omega, tau_tau]
    congr 1
  rw [← h2, pos_idx h1 (by rw [swp_len]; omega)]
  omega

theorem rev_count : ∀ n : Nat, n < 7 → invTo (fun z => (n : Int) - 1 - z) (sides n) n = n * (n - 1) / 2 := by decide
theorem swp_count : ∀ n : Nat, n < 7 → ∀ j, j < n - 1 → invTo (tau j) (sides n) n = 1 := by decide
theorem swp_rev_count : ∀ n : Nat, n < 7 → ∀ j, j < n - 1 → invTo (fun z => (n : Int) - 1 - tau j z) (sides n) n = n * (n - 1) / 2 - 1 := by decide

section
variable {p : List Int} {n : Nat} (hp : p.Nodup) (hl : p.length = n) (h6 : n ≤ 6)
include hp hl h6
theorem inv_reverse : inv p p.reverse = n * (n - 1) / 2 := by
  rw [inv_places hl (fun z => (n : Int) - 1 - z) (fun k hk => pos_reverse hp hl hk), rev_count n (by omega)]
theorem inv_swp {j : Nat} (hj : j + 1 < n) : inv p (swp p j) = 1 := by
  rw [inv_places hl (tau j) (fun k hk => pos_swp hp hl hj hk), swp_count n (by omega) j (by omega)]
theorem inv_swp_reverse {j : Nat} (hj : j + 1 < n) : inv (swp p j) p.reverse = n * (n - 1) / 2 - 1 := by
  rw [inv_places (by rw [swp_len, hl]) (fun z => (n : Int) - 1 - tau j z) (fun k hk => ?_), swp_rev_count n (by omega) j (by omega)]
  have hr := tau_range hj hk
  rw [swp_getD _ _ _ (by omega), pos_reverse hp hl (by omega)]
  omega
end
end Fm

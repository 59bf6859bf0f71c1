/-
  Who beats all others, by the pairwise matrix and by the votes: lists of ints alone, no Go text.
-/
import Derived.Test.YtbpenheomiejfaaWinsMath
namespace Fm
set_option linter.unusedVariables false

def Beats (n : Nat) (V : List (List Int)) (x : Nat) : Prop := x < n ∧ ∀ y : Nat, y < n → y ≠ x → cnt V y x < cnt V x y

theorem ent_duels (n : Nat) (V : List (List Int)) {x y : Nat} (hx : x < n) (hy : y < n) : ent (duelsM n V) x y = cnt V x y := by
  unfold ent duelsM
  have e : ((sides n).map fun x => duelRow n V x).getD x [] = duelRow n V x := by
    rw [List.getD_eq_getElem?_getD, List.getElem?_map, List.getElem?_eq_getElem (by rw [sides_len]; exact hx)]
    have : (sides n)[x]'(by rw [sides_len]; exact hx) = (x : Int) := by rw [← getD_get (by rw [sides_len]; exact hx), sides_getD hx]
    simp [this]
  rw [e]
  unfold duelRow
  rw [map_sides_getD n _ hy]
theorem ent_duels_bd (n : Nat) (V : List (List Int)) (hV : V.length ≤ 30) (x y : Nat) : 0 ≤ ent (duelsM n V) x y ∧ ent (duelsM n V) x y ≤ 30 := by
  by_cases hx : x < n
  · by_cases hy : y < n
    · rw [ent_duels n V hx hy]
      have := cnt_le V x y
      omega
    · unfold ent
      have e : ((duelsM n V).getD x []).length ≤ n := by
        rw [List.getD_eq_getElem?_getD]
        unfold duelsM
        rw [List.getElem?_map, List.getElem?_eq_getElem (by rw [sides_len]; exact hx)]
        simp [duelRow, sides_len]
      rw [List.getD_eq_getElem?_getD, List.getElem?_eq_none (by omega)]
      simp
  · unfold ent
    rw [List.getD_eq_getElem?_getD (l := duelsM n V), List.getElem?_eq_none (by simp [duelsM, sides_len]; omega)]
    simp
theorem duelsM_len (n : Nat) (V : List (List Int)) : (duelsM n V).length = n := by simp [duelsM, sides_len]
theorem duelsM_rows {n : Nat} {V : List (List Int)} {l : List Int} (h : l ∈ duelsM n V) : l.length = n := by
  unfold duelsM at h
  rw [List.mem_map] at h
  obtain ⟨x, _, rfl⟩ := h
  simp [duelRow, sides_len]
theorem sg_le (d : Int) : sg d ≤ 1 := by unfold sg; split <;> (try split) <;> omega
theorem sg_one {d : Int} : sg d = 1 ↔ 0 < d := by
  unfold sg
  constructor
  · intro h
    by_cases h1 : 0 < d
    · exact h1
    · rw [if_neg h1] at h
      split at h <;> omega
  · intro h; rw [if_pos h]
/-- x wins against the first j, itself left out, just if it beats each of them. -/
theorem winTo_max (M : List (List Int)) (x j : Nat) : winTo M x j ≤ j - (if x < j then 1 else 0) ∧ (winTo M x j = j - (if x < j then 1 else 0) ↔ ∀ y, y < j → y ≠ x → ent M y x < ent M x y) := by
  induction j with
  | zero => simp [winTo]
  | succ j ih =>
    obtain ⟨ih1, ih2⟩ := ih
    simp only [winTo]
    have hs := sg_le (ent M x j - ent M j x)
    by_cases hxj : x = j
    · subst hxj
      have h0 : sg (ent M x x - ent M x x) = 0 := by unfold sg; rw [if_neg (by omega), if_neg (by omega)]
      rw [if_neg (by omega)] at ih1 ih2
      rw [if_pos (by omega), h0]
      refine ⟨by omega, ⟨fun h y hy hne => (ih2.1 (by omega)) y (by omega) hne, fun h => ?_⟩⟩
      have := ih2.2 (fun y hy hne => h y (by omega) hne)
      omega
    · have hif : (if x < j + 1 then (1 : Int) else 0) = if x < j then 1 else 0 := by
        by_cases h : x < j
        · rw [if_pos h, if_pos (by omega)]
        · rw [if_neg h, if_neg (by omega)]
      rw [hif]
      refine ⟨by omega, ⟨fun h y hy hne => ?_, fun h => ?_⟩⟩
      · have h1 : sg (ent M x j - ent M j x) = 1 := by omega
        have h2 : winTo M x j = j - (if x < j then 1 else 0) := by omega
        by_cases hyj : y = j
        · subst hyj; have := sg_one.1 h1; omega
        · exact ih2.1 h2 y (by omega) hne
      · have h2 := ih2.2 (fun y hy hne => h y (by omega) hne)
        have h1 : sg (ent M x j - ent M j x) = 1 := sg_one.2 (by have := h j (by omega) (fun e => hxj e.symm); omega)
        omega
theorem win_beats {n : Nat} {V : List (List Int)} {x : Nat} (hx : x < n) : winTo (duelsM n V) x n = n - 1 ↔ Beats n V x := by
  have h := (winTo_max (duelsM n V) x n).2
  rw [if_pos hx] at h
  rw [h]
  unfold Beats
  constructor
  · intro hh
    refine ⟨hx, fun y hy hne => ?_⟩
    have := hh y hy hne
    rw [ent_duels n V hy hx, ent_duels n V hx hy] at this
    omega
  · rintro ⟨_, hh⟩ y hy hne
    rw [ent_duels n V hy hx, ent_duels n V hx hy]
    have := hh y hy hne
    omega
theorem beats_one {n : Nat} {V : List (List Int)} {x y : Nat} (hx : Beats n V x) (hy : Beats n V y) : x = y := by
  rcases Nat.lt_trichotomy x y with h | h | h
  · have a := hx.2 y hy.1 (by omega); have b := hy.2 x hx.1 (by omega); omega
  · exact h
  · have a := hx.2 y hy.1 (by omega); have b := hy.2 x hx.1 (by omega); omega
end Fm

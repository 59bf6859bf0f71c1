/-
  Who beats all others has not the fewest points, who is beaten by all others not the most: lists of ints alone, no Go text.
-/
import Derived.Test.YtbpenheomiejfaaMostMath
import Derived.Test.YtbpenheomiejfaaSumsMath
namespace Fm
set_option linter.unusedVariables false

theorem tot_const (n c : Nat) : tot (sides n) (fun _ => c) = n * c := by
  induction n with
  | zero => simp [tot_sides0]
  | succ n ih => rw [tot_succ, ih, Nat.succ_mul]
theorem tot_one (n x c : Nat) : tot (sides n) (fun y => if y = (x : Int) then c else 0) = if x < n then c else 0 := by
  induction n with
  | zero => simp [tot_sides0]
  | succ n ih =>
    rw [tot_succ, ih]
    by_cases h : x < n
    · rw [if_pos h, if_neg (show ¬ (n : Int) = x by omega), if_pos (show x < n + 1 by omega)]; rfl
    · by_cases h2 : x = n
      · subst h2; rw [if_neg h, if_pos rfl, if_pos (show x < x + 1 by omega)]; omega
      · rw [if_neg h, if_neg (show ¬ (n : Int) = x by omega), if_neg (show ¬ x < n + 1 by omega)]
theorem tot_but {n x : Nat} (hx : x < n) (c : Nat) : tot (sides n) (fun y => if y = (x : Int) then 0 else c) + c = n * c := by
  have h1 := tot_one n x c
  rw [if_pos hx] at h1
  have h2 := tot_add (sides n) (fun y => if y = (x : Int) then 0 else c) (fun y => if y = (x : Int) then c else 0)
  have h3 : tot (sides n) (fun y => (if y = (x : Int) then 0 else c) + (if y = (x : Int) then c else 0)) = tot (sides n) (fun _ => c) := tot_congr (fun y _ => by by_cases h : y = (x : Int) <;> simp [h])
  rw [h3, tot_const, h1] at h2
  exact h2.symm
theorem cnt_self (V : List (List Int)) (x : Int) : cnt V x x = 0 := by
  unfold cnt
  rw [List.countP_eq_zero]
  intro p _
  simp
def rowT (n : Nat) (V : List (List Int)) (x : Int) : Nat := tot (sides n) (fun y => cnt V x y)
theorem all_twice {n : Nat} {V : List (List Int)} (hV : ∀ p ∈ V, p.Perm (sides n)) : 2 * tot (sides n) (fun x => rowT n V x) + n * V.length = n * (n * V.length) := by
  have h1 : tot (sides n) (fun x => tot (sides n) (fun y => cnt V x y)) = tot (sides n) (fun y => tot (sides n) (fun x => cnt V x y)) := tot_swap _ _ _
  have h2 : tot (sides n) (fun x => rowT n V x) + tot (sides n) (fun x => rowT n V x) = tot (sides n) (fun x => tot (sides n) (fun y => cnt V x y + cnt V y x)) := by
    have e1 : tot (sides n) (fun x => tot (sides n) (fun y => cnt V x y + cnt V y x)) = tot (sides n) (fun x => tot (sides n) (fun y => cnt V x y) + tot (sides n) (fun y => cnt V y x)) := tot_congr (fun x _ => tot_add _ _ _)
    rw [e1, tot_add]
    unfold rowT
    rw [← h1]
  have h3 : tot (sides n) (fun x => tot (sides n) (fun y => cnt V x y + cnt V y x)) + n * V.length = n * (n * V.length) := by
    have e2 : ∀ x ∈ sides n, tot (sides n) (fun y => cnt V x y + cnt V y x) + V.length = n * V.length := fun x hx => by
      have hx := mem_sides.1 hx
      obtain ⟨k, rfl⟩ : ∃ k : Nat, x = k := ⟨x.toNat, by omega⟩
      rw [← tot_but (show k < n by omega) V.length]
      congr 1
      refine tot_congr (fun y hy => ?_)
      have hy := mem_sides.1 hy
      obtain ⟨m, rfl⟩ : ∃ m : Nat, y = m := ⟨y.toNat, by omega⟩
      by_cases h : (m : Int) = k
      · rw [if_pos h, h, cnt_self]
      · rw [if_neg h]; exact duel_both hV (by omega) (by omega) (by omega)
    have e3 : tot (sides n) (fun x => tot (sides n) (fun y => cnt V x y + cnt V y x) + V.length) = tot (sides n) (fun _ => n * V.length) := tot_congr e2
    rw [tot_add, tot_const, tot_const] at e3
    exact e3
  omega
theorem row_ge {n : Nat} {V : List (List Int)} (hV : ∀ p ∈ V, p.Perm (sides n)) {x : Nat} (hb : Beats n V x) : n * (V.length + 1) ≤ 2 * rowT n V x + (V.length + 1) := by
  rw [← tot_but hb.1 (V.length + 1)]
  have h : tot (sides n) (fun y => if y = (x : Int) then 0 else V.length + 1) ≤ tot (sides n) (fun y => cnt V x y + cnt V x y) := tot_le (fun y hy => by
    have hy := mem_sides.1 hy
    obtain ⟨m, rfl⟩ : ∃ m : Nat, y = m := ⟨y.toNat, by omega⟩
    by_cases h : (m : Int) = x
    · rw [if_pos h]; omega
    · rw [if_neg h]
      have a := hb.2 m (by omega) (by omega)
      have b := duel_both hV hb.1 (show m < n by omega) (by omega)
      omega)
  rw [tot_add] at h
  have e : tot (sides n) (fun y => cnt V x y) = rowT n V x := rfl
  rw [e] at h
  omega
theorem row_le {n : Nat} {V : List (List Int)} (hV : ∀ p ∈ V, p.Perm (sides n)) {x : Nat} (hx : x < n) (hl : ∀ y : Nat, y < n → y ≠ x → cnt V x y < cnt V y x) : 2 * rowT n V x + V.length + n ≤ n * V.length + 1 := by
  have e1 := tot_but hx V.length
  have e2 := tot_but hx 1
  have h : tot (sides n) (fun y => (cnt V x y + cnt V x y) + (if y = (x : Int) then 0 else 1)) ≤ tot (sides n) (fun y => if y = (x : Int) then 0 else V.length) := tot_le (fun y hy => by
    have hy := mem_sides.1 hy
    obtain ⟨m, rfl⟩ : ∃ m : Nat, y = m := ⟨y.toNat, by omega⟩
    by_cases h : (m : Int) = x
    · rw [if_pos h, if_pos h, h, cnt_self]; exact Nat.le_refl _
    · rw [if_neg h, if_neg h]
      have a := hl m (by omega) (by omega)
      have b := duel_both hV hx (show m < n by omega) (by omega)
      omega)
  rw [tot_add, tot_add] at h
  have e : tot (sides n) (fun y => cnt V x y) = rowT n V x := rfl
  rw [e] at h
  omega
theorem pts_row {n : Nat} {V : List (List Int)} (hV : ∀ p ∈ V, p.Perm (sides n)) {x : Nat} (hx : x < n) : pts n V x = rowT n V x := (sum_duels hV hx).symm
/-- Who beats all others has more points than somebody. -/
theorem beats_points {n : Nat} (h2 : 2 ≤ n) (h6 : n ≤ 6) {V : List (List Int)} (hV : ∀ p ∈ V, p.Perm (sides n)) {x : Nat} (hb : Beats n V x) : ∃ y : Nat, y < n ∧ pts n V y < pts n V x := by
  rcases Classical.em (∃ y : Nat, y < n ∧ pts n V y < pts n V x) with h | h
  · exact h
  · exfalso
    have hall : ∀ y ∈ sides n, rowT n V x ≤ rowT n V y := fun y hy => by
      have hy := mem_sides.1 hy
      obtain ⟨m, rfl⟩ : ∃ m : Nat, y = m := ⟨y.toNat, by omega⟩
      rcases Nat.lt_or_ge (rowT n V m) (rowT n V x) with h' | h'
      · exact absurd ⟨m, by omega, by rw [pts_row hV (show m < n by omega), pts_row hV hb.1]; omega⟩ h
      · exact h'
    have h3 : tot (sides n) (fun _ => rowT n V x) ≤ tot (sides n) (fun y => rowT n V y) := tot_le hall
    rw [tot_const] at h3
    have h4 := all_twice hV
    have h5 := row_ge hV hb
    have h7 : n = 2 ∨ n = 3 ∨ n = 4 ∨ n = 5 ∨ n = 6 := by omega
    rcases h7 with rfl | rfl | rfl | rfl | rfl <;> omega
/-- Who is beaten by all others has fewer points than somebody. -/
theorem loser_points {n : Nat} (h2 : 2 ≤ n) (h6 : n ≤ 6) {V : List (List Int)} (hV : ∀ p ∈ V, p.Perm (sides n)) {x : Nat} (hx : x < n) (hl : ∀ y : Nat, y < n → y ≠ x → cnt V x y < cnt V y x) : ∃ y : Nat, y < n ∧ pts n V x < pts n V y := by
  rcases Classical.em (∃ y : Nat, y < n ∧ pts n V x < pts n V y) with h | h
  · exact h
  · exfalso
    have hall : ∀ y ∈ sides n, rowT n V y ≤ rowT n V x := fun y hy => by
      have hy := mem_sides.1 hy
      obtain ⟨m, rfl⟩ : ∃ m : Nat, y = m := ⟨y.toNat, by omega⟩
      rcases Nat.lt_or_ge (rowT n V x) (rowT n V m) with h' | h'
      · exact absurd ⟨m, by omega, by rw [pts_row hV (show m < n by omega), pts_row hV hx]; omega⟩ h
      · exact h'
    have h3 : tot (sides n) (fun y => rowT n V y) ≤ tot (sides n) (fun _ => rowT n V x) := tot_le hall
    rw [tot_const] at h3
    have h4 := all_twice hV
    have h5 := row_le hV hx hl
    have h7 : n = 2 ∨ n = 3 ∨ n = 4 ∨ n = 5 ∨ n = 6 := by omega
    rcases h7 with rfl | rfl | rfl | rfl | rfl <;> omega
theorem not_greatest {l : List Int} {x y : Nat} (hy : y < l.length) (h : l.getD x 0 < l.getD y 0) : (x : Int) ∉ greatest l := fun hm => by
  have := (mem_greatest.1 hm).2
  have := most_ge hy
  omega
theorem loser_win2 {n : Nat} (h2 : 2 ≤ n) (h6 : n ≤ 6) {V : List (List Int)} (hV : ∀ p ∈ V, p.Perm (sides n)) {x : Nat} (hx : x < n) (hl : ∀ y : Nat, y < n → y ≠ x → cnt V x y < cnt V y x) : (x : Int) ∉ winL 2 n V := by
  show (x : Int) ∉ greatest (pointsL n V)
  obtain ⟨y, hy, hlt⟩ := loser_points h2 h6 hV hx hl
  refine not_greatest (y := y) (by simp [pointsL, sides_len]; exact hy) ?_
  unfold pointsL
  rw [map_sides_getD n _ hx, map_sides_getD n _ hy]
  exact hlt
theorem winTo_lose (M : List (List Int)) (x j : Nat) (h : ∀ y, y < j → y ≠ x → ent M x y < ent M y x) : winTo M x j = -((j : Int) - if x < j then 1 else 0) := by
  induction j with
  | zero => simp [winTo]
  | succ j ih =>
    have ih := ih (fun y hy hne => h y (by omega) hne)
    simp only [winTo]
    by_cases hxj : x = j
    · subst hxj
      have h0 : sg (ent M x x - ent M x x) = 0 := by unfold sg; rw [if_neg (by omega), if_neg (by omega)]
      rw [h0, ih, if_neg (by omega), if_pos (by omega)]; omega
    · have h1 := h j (by omega) (fun e => hxj e.symm)
      have hs : sg (ent M x j - ent M j x) = -1 := by unfold sg; rw [if_neg (by omega), if_pos (by omega)]
      rw [hs, ih]
      by_cases h2 : x < j
      · rw [if_pos h2, if_pos (by omega)]; omega
      · rw [if_neg h2, if_neg (by omega)]; omega
theorem winTo_min (M : List (List Int)) (y j : Nat) {x : Nat} (hxj : x < j) (hyj : y < j) (hne : y ≠ x) (h : ent M x y < ent M y x) : -((j : Int) - 1) < winTo M y j := by
  have hgen : ∀ k : Nat, -((k : Int) - (if y < k then 1 else 0)) + (if x < k then 2 else 0) ≤ winTo M y k := by
    intro k
    induction k with
    | zero => simp [winTo]
    | succ k ih =>
      simp only [winTo]
      have hs : -1 ≤ sg (ent M y k - ent M k y) := by unfold sg; split <;> (try split) <;> omega
      by_cases hyk : y = k
      · subst hyk
        have h0 : sg (ent M y y - ent M y y) = 0 := by unfold sg; rw [if_neg (by omega), if_neg (by omega)]
        rw [h0]
        rw [if_neg (show ¬ y < y by omega)] at ih
        rw [if_pos (show y < y + 1 by omega)]
        by_cases hx : x < y
        · rw [if_pos hx] at ih; rw [if_pos (by omega)]; omega
        · rw [if_neg hx] at ih; rw [if_neg (by omega)]; omega
      · by_cases hxk : x = k
        · subst hxk
          have h1 : sg (ent M y x - ent M x y) = 1 := sg_one.2 (by omega)
          rw [h1]
          rw [if_neg (show ¬ x < x by omega)] at ih
          rw [if_pos (show x < x + 1 by omega)]
          by_cases hy : y < x
          · rw [if_pos hy] at ih; rw [if_pos (by omega)]; omega
          · rw [if_neg hy] at ih; rw [if_neg (by omega)]; omega
        · by_cases hy : y < k
          · rw [if_pos hy] at ih; rw [if_pos (show y < k + 1 by omega)]
            by_cases hx : x < k
            · rw [if_pos hx] at ih; rw [if_pos (by omega)]; omega
            · rw [if_neg hx] at ih; rw [if_neg (by omega)]; omega
          · rw [if_neg hy] at ih; rw [if_neg (show ¬ y < k + 1 by omega)]
            by_cases hx : x < k
            · rw [if_pos hx] at ih; rw [if_pos (by omega)]; omega
            · rw [if_neg hx] at ih; rw [if_neg (by omega)]; omega
  have := hgen j
  rw [if_pos hyj, if_pos hxj] at this
  omega
theorem loser_win3 {n : Nat} (h2 : 2 ≤ n) {V : List (List Int)} {x : Nat} (hx : x < n) (hl : ∀ y : Nat, y < n → y ≠ x → cnt V x y < cnt V y x) : (x : Int) ∉ winL 3 n V := by
  show (x : Int) ∉ greatest (winsL n (duelsM n V))
  obtain ⟨y, hy, hne⟩ : ∃ y : Nat, y < n ∧ y ≠ x := by
    by_cases h : x = 0
    · exact ⟨1, by omega, by omega⟩
    · exact ⟨0, by omega, by omega⟩
  have hlt : ∀ z, z < n → z ≠ x → ent (duelsM n V) x z < ent (duelsM n V) z x := fun z hz hzx => by
    rw [ent_duels n V hx hz, ent_duels n V hz hx]
    have := hl z hz hzx
    omega
  refine not_greatest (y := y) (by simp [winsL, sides_len]; exact hy) ?_
  rw [winsL_at n _ hx, winsL_at n _ hy, winTo_lose _ x n hlt, if_pos hx]
  exact winTo_min _ y n hx hy hne (hlt y hy hne)
end Fm

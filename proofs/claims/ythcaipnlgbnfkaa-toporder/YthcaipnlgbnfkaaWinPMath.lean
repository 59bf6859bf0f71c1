/-
  Who wins by the strongest paths, looked at one by one: no Go text.
-/
import Derived.Test.YthcaipnlgbnfkaaM3
namespace Fm
set_option linter.unusedVariables false
/-- x holds its own against the first j. -/
def okTo (n : Nat) (M : List (List Int)) (x : Nat) : Nat → Bool
  | 0 => true
  | j + 1 => okTo n M x j && decide (pathE n M j x ≤ pathE n M x j)
theorem okTo_iff {n : Nat} {M : List (List Int)} {x j : Nat} : okTo n M x j = true ↔ ∀ y, y < j → pathE n M y x ≤ pathE n M x y := by
  induction j with
  | zero => exact ⟨fun _ y hy => absurd hy (by omega), fun _ => rfl⟩
  | succ j ih =>
    rw [okTo, Bool.and_eq_true, ih, decide_eq_true_eq]
    constructor
    · rintro ⟨h1, h2⟩ y hy
      by_cases e : y = j
      · subst e; exact h2
      · exact h1 y (by omega)
    · exact fun h => ⟨fun y hy => h y (by omega), h j (by omega)⟩
theorem okTo_win (n : Nat) (M : List (List Int)) (x : Nat) : okTo n M x n = winB n M x := by
  have h : okTo n M x n = true ↔ winB n M x = true := by
    rw [okTo_iff]; unfold winB
    simp only [List.all_eq_true, List.mem_range, decide_eq_true_eq]
  cases h1 : okTo n M x n with
  | true => rw [h.1 h1]
  | false =>
    cases h2 : winB n M x with
    | false => rfl
    | true => rw [h.2 h2] at h1; cases h1
/-- Those of the first k that win. -/
def winTo_ (n : Nat) (M : List (List Int)) (k : Nat) : List Int := ((List.range k).filter fun x => winB n M x).map fun (i : Nat) => (i : Int)
theorem winTo_end (n : Nat) (M : List (List Int)) : winTo_ n M n = winP n M := rfl
theorem winTo_yes {n : Nat} {M : List (List Int)} {k : Nat} (h : winB n M k = true) : winTo_ n M (k + 1) = winTo_ n M k ++ [(k : Int)] := by
  unfold winTo_; rw [List.range_succ, List.filter_append, List.map_append]; simp [h]
theorem winTo_no {n : Nat} {M : List (List Int)} {k : Nat} (h : winB n M k = false) : winTo_ n M (k + 1) = winTo_ n M k := by
  unfold winTo_; rw [List.range_succ, List.filter_append, List.map_append]; simp [h]
theorem winTo_len (n : Nat) (M : List (List Int)) (k : Nat) : (winTo_ n M k).length ≤ k := by
  unfold winTo_; rw [List.length_map]; exact Nat.le_trans (List.length_filter_le _ _) (by simp)
end Fm

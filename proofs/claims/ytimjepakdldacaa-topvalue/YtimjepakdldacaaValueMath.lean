/-
  A game of two rows: mixing is of no use if, and only if, there is a saddle point: integers alone, no Go text.
-/
import Derived.Test.YtimjepakdldacaaMixMath
namespace Fm
set_option linter.unusedVariables false
section
variable {M : List (List Int)} {k : Nat} {P Q V W : Int}
/-- A column whose entry in the row x is no more than lo, and in the other row too, where the value is no more than lo. -/
theorem value_col (s : Sol M k P Q V W) (p : Pay 2 k M) (h : V ≤ loB M * W) : ∃ y, y < k ∧ ent M 0 y ≤ loB M ∧ ent M 1 y ≤ loB M := by
  obtain ⟨⟨x, hx, e⟩, _⟩ := lo_at p
  have hlo := lo_bd p
  have hW := s.w1
  have hrow : ∀ y, y < k → loB M ≤ ent M x y := fun y hy => by rw [← e]; exact rmin_le p hx hy
  have hx2 : x = 0 ∨ x = 1 := by omega
  have key : ∀ q pp : Int, 0 ≤ pp → pp ≤ q → 1 ≤ q → ∃ y, y < k ∧ mval M pp q y ≤ loB M * q := fun q pp h0 h1 h2 => by
    obtain ⟨y, hy, hm⟩ := s.most pp q h0 h1 h2
    refine ⟨y, hy, ?_⟩
    have a1 : V * q ≤ loB M * W * q := Int.mul_le_mul_of_nonneg_right h (by omega)
    have a2 : W * mval M pp q y ≤ W * (loB M * q) := by
      have e3 : loB M * W * q = W * (loB M * q) := by grind
      omega
    exact mul_cancelL (by omega) a2
  rcases hx2 with rfl | rfl
  · obtain ⟨y, hy, hm⟩ := key 4002 4001 (by omega) (by omega) (by omega)
    have b0 := p.ent 0 y
    have b1 := p.ent 1 y
    have r0 := hrow y hy
    unfold mval at hm
    exact ⟨y, hy, by omega, by omega⟩
  · obtain ⟨y, hy, hm⟩ := key 4002 1 (by omega) (by omega) (by omega)
    have b0 := p.ent 0 y
    have b1 := p.ent 1 y
    have r0 := hrow y hy
    unfold mval at hm
    exact ⟨y, hy, by omega, by omega⟩
theorem value_points (s : Sol M k P Q V W) (p : Pay 2 k M) : loB M * W < V ↔ (ptA M k 2).length = 0 := by
  have hp := pt_some p
  have h1 := sol_lo s p
  have h2 := sol_hi s p
  constructor
  · intro h
    by_cases q : 0 < (ptA M k 2).length
    · rw [← hp.2 q] at h2
      omega
    · omega
  · intro h
    by_cases q : loB M * W < V
    · exact q
    · exfalso
      obtain ⟨y, hy, e0, e1⟩ := value_col s p (by omega)
      obtain ⟨x, hx, ec⟩ := cmax_at p y
      have hh := (hi_at p).2 y hy
      have hl := lo_hi p
      have hx2 : x = 0 ∨ x = 1 := by omega
      have : loB M = hiB k M := by
        rcases hx2 with rfl | rfl <;> omega
      have := hp.1 this
      omega
end
end Fm

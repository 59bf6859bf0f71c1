/-
  What is tried of each two columns, and that something fits: integers alone, no Go text.
-/
import Derived.Test.YtilgoinbajmamaaMixMath
namespace Fm
set_option linter.unusedVariables false

def upO (M : List (List Int)) (i j : Nat) : Int := ent M 1 j - ent M 0 j
def downO (M : List (List Int)) (i j : Nat) : Int := ent M 0 i - ent M 0 j - ent M 1 i + ent M 1 j
def lastO (M : List (List Int)) (i j : Nat) : Int × Int := if downO M i j < 0 then (-upO M i j, -downO M i j) else (upO M i j, downO M i j)
/-- The mixtures that are tried. -/
def trL (M : List (List Int)) (i j : Nat) : List (Int × Int) := [(1, 1), (0, 1)] ++ if downO M i j ≠ 0 then [lastO M i j] else []
def c0O (M : List (List Int)) (W : Int) (i j : Nat) (x : Int × Int) : Int := (ent M 0 i * x.1 + ent M 0 j * (x.2 - x.1)) * W
def c1O (M : List (List Int)) (W : Int) (i j : Nat) (x : Int × Int) : Int := (ent M 1 i * x.1 + ent M 1 j * (x.2 - x.1)) * W
def okO (M : List (List Int)) (V W : Int) (i j : Nat) (x : Int × Int) : Prop := 0 ≤ x.1 ∧ x.1 ≤ x.2 ∧ c0O M W i j x ≤ V * x.2 ∧ c1O M W i j x ≤ V * x.2
theorem other_ok {M : List (List Int)} {k : Nat} {P Q V W : Int} (s : Sol M k P Q V W) (p : Pay 2 k M) : ∃ i j x, i < k ∧ j < k ∧ x ∈ trL M i j ∧ okO M V W i j x := by
  rcases sol_other s p with ⟨y, hy, h1, h2⟩ | ⟨i, j, hi, hj, hs1, hs2, h1, h2⟩
  · refine ⟨y, y, (1, 1), hy, hy, by simp [trL], by dsimp only; omega, by dsimp only; omega, ?_, ?_⟩
    · unfold c0O; dsimp only; grind
    · unfold c1O; dsimp only; grind
  · have eu : upO M i j = -slope M j := by unfold upO slope; omega
    have ed : downO M i j = slope M i - slope M j := by unfold downO slope; omega
    refine ⟨i, j, (-slope M j, slope M i - slope M j), hi, hj, ?_, by dsimp only; omega, by dsimp only; omega, ?_, ?_⟩
    · unfold trL lastO
      rw [if_pos (by omega), if_neg (by omega), eu, ed]
      simp
    · unfold c0O; dsimp only; rw [Int.mul_comm]; exact h1
    · unfold c1O; dsimp only; rw [Int.mul_comm]; exact h2
theorem tr_bd {M : List (List Int)} {k : Nat} (p : Pay 2 k M) {i j : Nat} {x : Int × Int} (hx : x ∈ trL M i j) : -4000 ≤ x.1 ∧ x.1 ≤ 4000 ∧ -4000 ≤ x.2 ∧ x.2 ≤ 4000 := by
  have a0 := p.ent 0 i
  have a1 := p.ent 0 j
  have a2 := p.ent 1 i
  have a3 := p.ent 1 j
  unfold trL at hx
  rcases List.mem_append.1 hx with h | h
  · simp at h
    rcases h with rfl | rfl <;> simp
  · by_cases c : downO M i j ≠ 0
    · rw [if_pos c, List.mem_singleton] at h
      subst h
      unfold lastO upO downO
      split <;> (dsimp only; omega)
    · rw [if_neg c] at h; cases h
theorem tr_len (M : List (List Int)) (i j : Nat) : (trL M i j).length ≤ 3 := by unfold trL; rw [List.length_append]; split <;> simp
theorem mul_bdA {x y a b : Int} (hx : -a ≤ x ∧ x ≤ a) (hy : -b ≤ y ∧ y ≤ b) (ha : 0 ≤ a) (hb : 0 ≤ b) : -(a * b) ≤ x * y ∧ x * y ≤ a * b := by
  have h1 := Int.mul_nonneg (show 0 ≤ a - x by omega) (show 0 ≤ b - y by omega)
  have h2 := Int.mul_nonneg (show 0 ≤ a + x by omega) (show 0 ≤ b + y by omega)
  have h3 := Int.mul_nonneg (show 0 ≤ a - x by omega) (show 0 ≤ b + y by omega)
  have h4 := Int.mul_nonneg (show 0 ≤ a + x by omega) (show 0 ≤ b - y by omega)
  constructor
  · grind
  · grind
/-- The parts, as letters. -/
theorem tr_parts {M : List (List Int)} {k : Nat} (p : Pay 2 k M) {V W : Int} (hv : -4000000 ≤ V ∧ V ≤ 4000000) (hw : 1 ≤ W) (hwb : W ≤ 4000) (e : Nat) (i j : Nat) {s t : Int} (hx : (s, t) ∈ trL M i j) :
    ∃ A B C D : Int, ent M e i * s = A ∧ ent M e j * (t - s) = B ∧ (A + B) * W = C ∧ V * t = D ∧ -10000000 ≤ A ∧ A ≤ 10000000 ∧ -10000000 ≤ B ∧ B ≤ 10000000 ∧ -80000000000 ≤ C ∧ C ≤ 80000000000 ∧ -20000000000 ≤ D ∧ D ≤ 20000000000 := by
  obtain ⟨x1, x2, x3, x4⟩ := tr_bd p hx
  dsimp only at x1 x2 x3 x4
  have h0 := p.ent e i
  have h1 := p.ent e j
  have a1 := mul_bdA (x := ent M e i) (y := s) (a := 1000) (b := 4000) ⟨by omega, by omega⟩ ⟨by omega, by omega⟩ (by omega) (by omega)
  have a2 := mul_bdA (x := ent M e j) (y := t - s) (a := 1000) (b := 8000) ⟨by omega, by omega⟩ ⟨by omega, by omega⟩ (by omega) (by omega)
  have a3 := mul_bdA (x := ent M e i * s + ent M e j * (t - s)) (y := W) (a := 12000000) (b := 4000) ⟨by omega, by omega⟩ ⟨by omega, by omega⟩ (by omega) (by omega)
  have a4 := mul_bdA (x := V) (y := t) (a := 4000000) (b := 4000) ⟨by omega, by omega⟩ ⟨by omega, by omega⟩ (by omega) (by omega)
  exact ⟨_, _, _, _, rfl, rfl, rfl, rfl, by omega, by omega, by omega, by omega, by omega, by omega, by omega, by omega⟩
end Fm

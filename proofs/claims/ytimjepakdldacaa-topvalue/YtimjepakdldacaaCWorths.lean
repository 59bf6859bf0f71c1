/-
  plumekeep.worths returns true, if worth.Share keeps its contract; plumekeep.GameOf: what it returns; nothing that was there is written.
-/
import Derived.Test.YtimjepakdldacaaM19
import Derived.Test.YtimjepakdldacaaM21
import Derived.Test.YtimjepakdldacaaPush
namespace Go.Proofs.Ytimjepakdldacaa
open Go.RowKit Fm
set_option linter.unusedVariables false

theorem wo1 : shL 2 [0, 0, 2, 6] = [4, 8] := by decide +kernel
theorem wo2 : Gm 2 [0, 0, 2, 6] := ⟨by decide, by decide, by decide, by decide, by decide⟩


/-- The game that GameOf makes of any numbers. -/
def gmAt (l : List Int) (i : Nat) : Int := if 0 < i ∧ i - 1 < l.length then l.getD (i - 1) 0 % 41 - 10 else 0
def gmTo (N : Nat) (l : List Int) (k : Nat) : List Int := fnL N (fun y => if y.toNat < k then gmAt l y.toNat else 0)
def gameL (n : Nat) (l : List Int) : List Int := fnL (2 ^ n) (fun y => gmAt l y.toNat)
theorem gm_bd (l : List Int) (i : Nat) : -10 ≤ gmAt l i ∧ gmAt l i ≤ 30 := by unfold gmAt; split <;> omega
theorem gameL_len (n : Nat) (l : List Int) : (gameL n l).length = 2 ^ n := fnL_len _ _
theorem gameL_at {n : Nat} (l : List Int) {S : Nat} (h : S < 2 ^ n) : val (gameL n l) S = gmAt l S := by unfold val gameL; rw [fnL_at _ _ h]; simp
theorem gameL_gm {n : Nat} (h1 : 1 ≤ n) (h6 : n ≤ 6) (l : List Int) : Gm n (gameL n l) := by
  refine ⟨h1, h6, gameL_len n l, fun x hx => ?_, ?_⟩
  · unfold gameL fnL at hx
    rw [List.mem_map] at hx
    obtain ⟨y, _, rfl⟩ := hx
    have := gm_bd l y.toNat
    omega
  · have := gameL_at (n := n) l (S := 0) (pow1 n)
    unfold val at this
    rw [this]
    unfold gmAt
    rw [if_neg (by omega)]
theorem gm_pw {n : Nat} (h : n ≤ 6) : wrap64 (2 ^ n) = ((2 ^ n : Nat) : Int) := by
  have : n = 0 ∨ n = 1 ∨ n = 2 ∨ n = 3 ∨ n = 4 ∨ n = 5 ∨ n = 6 := by omega
  rcases this with rfl | rfl | rfl | rfl | rfl | rfl | rfl <;> decide +kernel


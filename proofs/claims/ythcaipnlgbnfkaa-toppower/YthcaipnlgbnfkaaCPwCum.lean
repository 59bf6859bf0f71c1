/-
  Counts that grow set by set, player by player, as a row: lists of ints alone; package power: arrivals.
-/
import Derived.Test.YthcaipnlgbnfkaaCPwOnes
import Derived.Test.YthcaipnlgbnfkaaCPwCrit
import Derived.Test.YthcaipnlgbnfkaaCPwCheck
import Derived.Test.YthcaipnlgbnfkaaPureA
namespace Go.Proofs.Ythcaipnlgbnfkaa
open Go.RowKit Fm
set_option linter.unusedVariables false

/-- The sums over the first s sets, and at the first i players also over the set s. -/
def cumL (n : Nat) (f : Nat → Nat → Nat) (s i : Nat) : List Int := fnL n (fun j => ((sN (f j.toNat) s + if j.toNat < i then f j.toNat s else 0 : Nat) : Int))
theorem cumL_at {n i : Nat} (f : Nat → Nat → Nat) (s : Nat) (hi : i < n) : (cumL n f s i).getD i 0 = (sN (f i) s : Nat) := by
  unfold cumL
  rw [fnL_at n _ hi]
  simp
theorem cumL_set {n i : Nat} (f : Nat → Nat → Nat) (s : Nat) (hi : i < n) : (cumL n f s i).set i ((sN (f i) s + f i s : Nat) : Int) = cumL n f s (i + 1) := by
  unfold cumL
  rw [fnL_set n _ hi]
  refine fnL_congr n (fun j hj => ?_)
  rw [Int.toNat_natCast]
  by_cases e : (j : Int) = i
  · obtain rfl : j = i := by omega
    rw [if_pos rfl, if_pos (by omega)]
  · rw [if_neg e]
    by_cases h : j < i
    · rw [if_pos h, if_pos (by omega)]
    · rw [if_neg h, if_neg (by omega)]
theorem cumL_skip {n i : Nat} (f : Nat → Nat → Nat) (s : Nat) (hf : f i s = 0) : cumL n f s i = cumL n f s (i + 1) := by
  unfold cumL
  refine fnL_congr n (fun j hj => ?_)
  rw [Int.toNat_natCast]
  by_cases e : j = i
  · subst e
    rw [if_neg (by omega), if_pos (by omega), hf]
  · by_cases h : j < i
    · rw [if_pos h, if_pos (by omega)]
    · rw [if_neg h, if_neg (by omega)]
theorem cumL_next (n : Nat) (f : Nat → Nat → Nat) (s : Nat) : cumL n f s n = cumL n f (s + 1) 0 := by
  unfold cumL
  refine fnL_congr n (fun j hj => ?_)
  rw [Int.toNat_natCast, if_pos hj, if_neg (by omega), sN, Nat.add_zero]
theorem cumL_zero (n : Nat) (f : Nat → Nat → Nat) : List.replicate n 0 = cumL n f 0 0 := by
  rw [zeroL]
  exact fnL_congr n (fun j hj => rfl)
theorem cumL_end (n : Nat) (f : Nat → Nat → Nat) (s : Nat) : cumL n f s 0 = fnL n (fun j => (sN (f j.toNat) s : Nat)) := by
  unfold cumL
  exact fnL_congr n (fun j hj => by simp)
theorem sN_bdC {g : Nat → Nat} {C : Nat} (h : ∀ s, g s ≤ C) (N : Nat) : sN g N ≤ C * N := by
  induction N with
  | zero => simp [sN]
  | succ N ih => rw [sN, Nat.mul_succ]; have := h N; omega
theorem cS_sN (p : Nat → Bool) (N : Nat) : cS p N = sN (fun s => if p s = true then 1 else 0) N := by
  induction N with
  | zero => rfl
  | succ N ih => rw [cS_succ, sN, ih]
theorem fact_le6 : ∀ k, k ≤ 6 → fact k ≤ 720 := by decide
theorem ones_lt : ∀ n, n < 7 → ∀ S, S < 2 ^ n → onesN S ≤ n := by decide +kernel
theorem ones_pos {S i : Nat} (hi : i < 6) (h : S.testBit i = true) : 1 ≤ onesN S := by
  unfold onesN
  exact List.length_pos_of_mem (List.mem_filter.2 ⟨List.mem_range.2 hi, h⟩)
theorem pwuint (S : Nat) (hS : S < 64) : IntKind.u64.wrap (S : Int) = (S : Int) := by
  revert hS; revert S; decide +kernel

set_option maxHeartbeats 1000000 in
set_option maxRecDepth 100000 in
theorem pwArr_any (n S : Nat) (hn : n ≤ 6) (hS : S < 2 ^ n) (h1 : 1 ≤ onesN S) (w : World) :
    Calls Try.prog 92 #[.int .i64 S, .int .i64 n] w fun e w' => e = .returned (.int .i64 (fact (onesN S - 1) * fact (n - onesN S) : Nat)) ∧ w = w' := by
  have hS64 : S < 64 := by have := pow_le6 hn; omega
  have ho := ones_lt n (by omega) S hS
  have Q1 := Lib.hid (ones_any S hS64 w)
  have HU := pwuint S hS64
  clear hS
  generalize onesN S = k at *
  have e1 : (k : Int) - 1 = ((k - 1 : Nat) : Int) := by omega
  have e2 : (n : Int) - (k : Int) = ((n - k : Nat) : Int) := by omega
  have Q2 : Hid (Calls Try.prog 109 #[.int .i64 ((k : Int) - 1)] w fun e w' => e = .returned (.int .i64 (fact (k - 1) : Nat)) ∧ w = w') := by
    rw [e1]; exact pwFac_any (k - 1) (by omega) w
  have Q3 : Hid (Calls Try.prog 109 #[.int .i64 ((n : Int) - (k : Int))] w fun e w' => e = .returned (.int .i64 (fact (n - k) : Nat)) ∧ w = w') := by
    rw [e2]; exact pwFac_any (n - k) (by omega) w
  have b1 := fact_le6 (k - 1) (by omega)
  have b2 := fact_le6 (n - k) (by omega)
  clear e1 e2
  generalize fact (k - 1) = A at *
  generalize fact (n - k) = B at *
  obtain ⟨C, hC⟩ : ∃ C : Nat, A * B = C := ⟨_, rfl⟩
  have m1 : (A : Int) * (B : Int) = (C : Int) := by rw [← hC, Int.natCast_mul]
  have hCb : C ≤ 518400 := by rw [← hC]; exact Nat.mul_le_mul b1 b2
  rw [hC]
  clear hC
  go_enter Try.func92, Try.ntmps92
  go_wp2_with fail
  refine Q1.out.mono ?_
  rintro e w' ⟨rfl, rfl⟩
  go_wp2_with fail
  refine Q2.out.mono ?_
  rintro e w' ⟨rfl, rfl⟩
  go_wp2_with fail
  refine Q3.out.mono ?_
  rintro e w' ⟨rfl, rfl⟩
  go_wp2
  go_ret
  exact ⟨rfl, rfl⟩
end Go.Proofs.Ythcaipnlgbnfkaa

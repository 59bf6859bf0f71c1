/-
  power.Wins and plumekeep.sum as the laws on power use them; powers of two.
-/
import Derived.Test.YtdoidajdfnbiiaaCPowers
namespace Go.Proofs.Ytdoidajdfnbiiaa
open Go.RowKit Fm
set_option linter.unusedVariables false

theorem pw_at {n : Nat} (h : n ≤ 6) : wrap64 (2 ^ n) = ((2 ^ n : Nat) : Int) := by
  have : n = 0 ∨ n = 1 ∨ n = 2 ∨ n = 3 ∨ n = 4 ∨ n = 5 ∨ n = 6 := by omega
  rcases this with rfl | rfl | rfl | rfl | rfl | rfl | rfl <;> decide +kernel
theorem win_use (sW : PwWins) {P : List Int} {q n : Nat} (g : Wgt P q) (hn : P.length = n) (a : Option Addr) (c : Nat) (hc : n ≤ c) {S : Nat} (hS : S < 2 ^ n) (W : World) (hr : Rd W W.heap.size a n P) :
    Calls Try.prog 9 #[.slice a n c, .int .i64 q, .int .i64 S] W fun e w' => e = .returned (.tuple #[.bool (winB2 (wt P) n q S), .int .i64 0]) ∧ Below W.heap.size W w' := by
  have hp := g.le
  have h := sW a n c P q S W ⟨hr, by omega, hc⟩
  obtain ⟨e1, e2⟩ := g.win (S := S) (by rw [hn]; exact hS)
  rw [e1, e2, hn] at h
  exact h
theorem wsum_use {P : List Int} (hbd : ∀ x ∈ P, 0 ≤ x ∧ x ≤ 1000) {n : Nat} (hn : P.length = n) (h6 : n ≤ 6) (a : Option Addr) (c : Nat) (W : World) (B : Nat) (hr : Rd W B a n P) :
    Calls Try.prog 19 #[.slice a n c] W fun e w' => e = .returned (.int .i64 (sN (wt P) n)) ∧ w' = W := by
  have q := sumK_any a n c P W B hr (by omega) (fun x hx => by have := hbd x hx; omega)
  rw [wt_sum hbd, hn] at q
  exact q.mono fun e w' ⟨h1, h2⟩ => ⟨h1, h2.symm⟩
end Go.Proofs.Ytdoidajdfnbiiaa

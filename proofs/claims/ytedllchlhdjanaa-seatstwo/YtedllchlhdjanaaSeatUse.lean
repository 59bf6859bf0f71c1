/-
  seats.Share, plumekeep.sum and slices.Equal as the laws on seats use them.
-/
import Derived.Test.YtedllchlhdjanaaCShares
import Derived.Test.YtedllchlhdjanaaCSumK
namespace Go.Proofs.Ytedllchlhdjanaa
open Go.RowKit Fm
set_option linter.unusedVariables false

theorem mem_shares {way : Int} {P : List Int} {h : Nat} (p : Ppl P) {x : Int} (hx : x ∈ sharesL way P h) : 0 ≤ x ∧ x ≤ h := by
  obtain ⟨i, hi, rfl⟩ := List.getElem_of_mem hx
  have hi' : i < P.length := by rw [shares_len] at hi; exact hi
  rw [← getD_get hi, shares_at _ _ _ hi']
  have := share_le p way h hi'
  omega
/-- What is handed back, without an error. -/
def ShOut (n : Nat) (l : List Int) (w : World) (e : Ending) (w' : World) : Prop := ∃ a c, e = .returned (.tuple #[.slice a n c, .int .i64 0]) ∧ Rd w' w'.heap.size a n l ∧ Below w.heap.size w w'
theorem share_use (sS : SShare) {P : List Int} (p : Ppl P) {n : Nat} (hn : P.length = n) {way : Int} (w1 : 1 ≤ way) (w3 : way ≤ 3) {h : Nat} (hh : h ≤ 100) (a : Option Addr) (c : Nat) (hc : n ≤ c) (W : World) (hr : Rd W W.heap.size a n P) :
    Calls Try.prog 9 #[.int .i64 way, .slice a n c, .int .i64 h] W (ShOut n (sharesL way P h) W) := by
  have hp := p.le
  have q := sS way a n c P h W ⟨hr, by omega, hc⟩ (p.schk w1 w3 (by omega) (by omega))
  refine q.mono ?_
  rintro e w' ⟨a, c, rfl, _, _, r, hb⟩
  rw [shares_len, hn] at r ⊢
  exact ⟨a, c, rfl, r, hb⟩
theorem sum_use {P : List Int} (p : Ppl P) {n : Nat} (hn : P.length = n) {way : Int} {h : Nat} (hh : h ≤ 100) (a : Option Addr) (c : Nat) (W : World) (hr : Rd W W.heap.size a n (sharesL way P h)) :
    Calls Try.prog 18 #[.slice a n c] W fun e w' => e = .returned (.int .i64 h) ∧ W = w' := by
  have hp := p.le
  have q := sumK_any a n c (sharesL way P h) W W.heap.size hr (by omega) (fun x hx => by have := mem_shares p hx; omega)
  rw [shares_sum p] at q
  exact q
theorem pplsum_use {P : List Int} (p : Ppl P) {n : Nat} (hn : P.length = n) (a : Option Addr) (c : Nat) (W : World) (hr : Rd W W.heap.size a n P) :
    Calls Try.prog 18 #[.slice a n c] W fun e w' => e = .returned (.int .i64 (sN (xs P) n)) ∧ W = w' := by
  have hp := p.le
  have q := sumK_any a n c P W W.heap.size hr (by omega) (fun x hx => by have := p.bd x hx; omega)
  rw [ppl_sum p, hn] at q
  exact q
theorem shares_ext {way way' : Int} {P P' : List Int} {h h' : Nat} (hl : P.length = P'.length) (he : ∀ i, i < P.length → shareN way P h i = shareN way' P' h' i) : sharesL way P h = sharesL way' P' h' := by
  unfold sharesL
  rw [← hl]
  exact fnL_congr _ (fun j hj => by simp [he j hj])
theorem shares_is {way : Int} {P : List Int} {h : Nat} (p : Ppl P) (he : ∀ i, i < P.length → shareN way P h i = xs P i) : sharesL way P h = P := by
  apply List.ext_getElem (by rw [shares_len])
  intro i h1 h2
  rw [← getD_get h1, ← getD_get h2, shares_at _ _ _ h2, he i h2, (p.at_ h2).1]
end Go.Proofs.Ytedllchlhdjanaa

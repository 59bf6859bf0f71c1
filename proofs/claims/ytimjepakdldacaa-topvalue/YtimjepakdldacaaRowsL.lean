/-
  Rows of rows of the call's own that are made longer one by one, several beside each other.
-/
import Derived.Test.YtimjepakdldacaaPureA
import Derived.Test.YtimjepakdldacaaProg
import Derived.WalkKit
namespace Go.Proofs.Ytimjepakdldacaa
open Go.RowKit Fm
set_option linter.unusedVariables false

def RL (w : World) (B : Nat) (v : Value) (n : Nat) (L : List (List Int)) : Prop := ∃ vs, w.ownsRow B 27 1 v n vs ∧ Elems w B 3 vs L ∧ L.length = n
theorem RL.nil_ (w : World) (B : Nat) : RL w B (.slice none 0 0) 0 [] := ⟨[], ⟨rfl, .inl ⟨rfl, rfl⟩⟩, Elems.nil_, rfl⟩
theorem RL.below {w w' : World} {B n : Nat} {v : Value} {L : List (List Int)} (h : RL w B v n L) (hb : Below w.heap.size w w') : RL w' B v n L := by
  obtain ⟨vs, h1, h2, h3⟩ := h
  exact ⟨vs, own_below h1 hb (Nat.le_refl _), h2.below hb (Nat.le_refl _), h3⟩
theorem RL.drewN {w : World} {B n : Nat} {v : Value} {L : List (List Int)} (h : RL w B v n L) (k : Nat) : RL (w.drewN k) B v n L := h
theorem own_kind2 {w w' : World} {B n : Nat} {v : Value} {vs : List Value} (h : w.ownsRow B 27 1 v n vs) : ∀ g, v.ownBlock = some g → g < B ∨ ∃ c t, w.heap[g]? = some (.cells c t (0, 0)) ∧ t ≠ 3 := fun g hg => by
  obtain ⟨c, hc⟩ := own_kind h hg
  exact .inr ⟨c, _, hc, by decide⟩
/-- Another one has been made longer. -/
theorem RL.kept {w w' : World} {B n m : Nat} {v u : Value} {L : List (List Int)} {us : List Value} (h : RL w B v n L) (hu : w.ownsRow B 27 1 u m us) (hg : w.grownBy w' u.ownBlock) (hne : v.ownBlock = none ∨ v.ownBlock ≠ u.ownBlock) : RL w' B v n L := by
  obtain ⟨vs, h1, h2, h3⟩ := h
  exact ⟨vs, h1.kept hg hne, h2.kept hg (own_kind2 (w' := w) hu), h3⟩
/-- A row of the call's own has been changed that is none of these. -/
theorem RL.push {w w' : World} {B n : Nat} {v v' r : Value} {L : List (List Int)} {vs : List Value} {l : List Int} (hv : w.ownsRow B 27 1 v n vs) (he : Elems w B 3 vs L) (hL : L.length = n) (hr : w.ownsRow B 3 1 r l.length (I l)) (hg : w.grownBy w' v.ownBlock) (hv' : w'.ownsRow B 27 1 v' (n + 1) (vs ++ [r])) : RL w' B v' (n + 1) (L ++ [l]) :=
  ⟨vs ++ [r], hv', (he.kept hg (own_kind2 (w' := w) hv)).snoc (hr.kept hg (own_far hv hr (by decide))), by rw [List.length_append, hL]; rfl⟩
theorem RL.rdr {w : World} {B n c : Nat} {a : Option Addr} {L : List (List Int)} (h : RL w B (.slice a n c) n L) : RdR w w.heap.size a n L := by
  obtain ⟨vs, h1, h2, h3⟩ := h
  exact RdR.of_own h1 h3 h2
end Go.Proofs.Ytimjepakdldacaa

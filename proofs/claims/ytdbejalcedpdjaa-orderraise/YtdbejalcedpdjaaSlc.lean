/-
  slices.Equal, slices.Index, slices.Clone, slices.Reverse at slices of ints, nil let in: what they return and write.
-/
import Derived.Test.YtdbejalcedpdjaaShelf
import Derived.Test.YtdbejalcedpdjaaBase
import Derived.Lib.OwnBridge
import Derived.WalkKit
namespace Go.Proofs.Ytdbejalcedpdjaa
open Go.RowKit Fm
set_option linter.unusedVariables false

theorem equal_any (p q : List Int) (a a2 : Option Addr) (n c n2 c2 : Nat) (w : World) (B : Nat) (hp : Rd w B a n p) (hq : Rd w B a2 n2 q) (hn : n ≤ 9223372036854775807) (hn2 : n2 ≤ 9223372036854775807) :
    Calls Try.prog 8 #[.slice a n c, .slice a2 n2 c2] w fun e w' => e = .returned (.bool (decide (p = q))) ∧ ∃ k, w' = w.drewN k := by
  have hl := hp.1
  have hl2 := hq.1
  by_cases h : n = n2
  · subst h
    by_cases h0 : n = 0
    · subst h0
      have e1 := List.eq_nil_of_length_eq_zero hl
      have e2 := List.eq_nil_of_length_eq_zero hl2
      subst e1; subst e2
      refine (Try.slices_Equal_int_empty a a2 c 0 c2 w (by omega)).mono ?_
      rintro e w' ⟨rfl, rfl⟩
      exact ⟨by simp, 0, rfl⟩
    · obtain ⟨b, o, rfl, _, hc⟩ := hp.2 (by omega)
      obtain ⟨b2, o2, rfl, _, hc2⟩ := hq.2 (by omega)
      refine (Try.slices_Equal_int b o n c b2 o2 n c2 p q w (by omega) (by omega) hn hn (fun j hj => hc j (by omega)) (fun j hj => hc2 j (by omega))).mono ?_
      rintro e w' ⟨rfl, hw⟩
      refine ⟨?_, hw⟩
      rw [List.take_of_length_le (by omega), List.take_of_length_le (by omega)]
      by_cases he : p = q
      · subst he; simp
      · simp [he]
  · refine (Try.slices_Equal_int_lens a a2 n c n2 c2 w h).mono ?_
    rintro e w' ⟨rfl, rfl⟩
    refine ⟨?_, 0, rfl⟩
    have : p ≠ q := fun e => by subst e; omega
    simp [this]

theorem index_any (p : List Int) (x : Int) (a : Option Addr) (n c : Nat) (w : World) (B : Nat) (hp : Rd w B a n p) (hn : n ≤ 9223372036854775807) :
    Calls Try.prog 19 #[.slice a n c, .int .i64 x] w fun e w' => e = .returned (.int .i64 (Lib.idxOf p x)) ∧ w = w' := by
  have hl := hp.1
  by_cases h0 : n = 0
  · subst h0
    have e1 := List.eq_nil_of_length_eq_zero hl
    subst e1
    exact (Try.slices_Index_int_empty a c x w).mono fun e w' ⟨h1, h2⟩ => ⟨h1, h2.symm⟩
  · obtain ⟨b, o, rfl, _, hc⟩ := hp.2 (by omega)
    have h := Try.slices_Index_int b o n c p x w (by omega) hn (fun j hj => hc j (by omega))
    rw [List.take_of_length_le (by omega)] at h
    exact h.mono fun e w' ⟨h1, h2⟩ => ⟨h1, h2.symm⟩

theorem clone_any (p : List Int) (a : Option Addr) (n c : Nat) (w : World) (B : Nat) (hp : Rd w B a n p) (hn : n * 8 ≤ 140737488355328) :
    Calls Try.prog 20 #[.slice a n c] w fun e w' => ∃ v, e = .returned v ∧ w'.ownsRow w.heap.size 3 1 v n (I p) ∧ Below w.heap.size w w' := by
  have hl := hp.1
  by_cases h0 : n = 0
  · subst h0
    have e1 := List.eq_nil_of_length_eq_zero hl
    subst e1
    cases a with
    | none =>
      refine (Try.slices_Clone_int_nil 0 c w).mono ?_
      rintro e w' ⟨rfl, rfl⟩
      exact ⟨_, rfl, World.ownsRow_nil _ _ _ _, Below.refl _ _⟩
    | some a =>
      refine (Try.slices_Clone_int_zero a c w).mono ?_
      rintro e w' ⟨v, rfl, h, _, hb⟩
      exact ⟨v, rfl, h, hb⟩
  · obtain ⟨b, o, rfl, _, hc⟩ := hp.2 (by omega)
    refine (Try.slices_Clone_int b o n c p w (by omega) hn (fun j hj => hc j (by omega))).mono ?_
    rintro e w' ⟨v, rfl, h, _, hb⟩
    rw [List.take_of_length_le (by omega)] at h
    exact ⟨v, rfl, h, hb⟩

theorem putRow_grown {α : Type} [Inhabited α] (enc : α → Value) (w : World) (q g off : Nat) (d : Array α) : w.grownBy (Sort.putRow enc (Sort.ahead w q) g off d) (some g) := by
  refine ⟨rfl, rfl, rfl, by simp [Sort.putRow, Sort.mapBlock, Sort.ahead], fun k hk hne => ?_⟩
  have hkg : g ≠ k := fun e => hne (by rw [e])
  simp [Sort.putRow, Sort.mapBlock, Sort.ahead, Array.getElem?_modify, hkg]

/-- slices.Reverse of a row of the caller's own. -/
theorem reverse_own (base g n cap : Nat) (l : List Int) (w : World) (hown : w.ownsRow base 3 1 (.slice (some ⟨g, 0, none⟩) n cap) n (I l)) (hn : n ≤ 9223372036854775807) :
    Calls Try.prog 25 #[.slice (some ⟨g, 0, none⟩) n cap] w fun e w' =>
      e = .returned (.tuple #[]) ∧ w'.ownsRow base 3 1 (.slice (some ⟨g, 0, none⟩) n cap) n (I l.reverse) ∧ w.grownBy w' (some g) := by
  obtain ⟨g', cap', hv, _, _, hnc, hcm, hl, hH⟩ := Lib.holds_of_ownsRow hown (by simp)
  injection hv with hv1 _ hv3
  injection hv1 with hv1
  injection hv1 with hv1
  subst hv1; subst hv3
  have h := Try.slices_Reverse_int g 0 cap l w hH (by omega)
  rw [hl] at h
  refine h.mono ?_
  rintro e w' ⟨rfl, q, rfl⟩
  refine ⟨rfl, ?_, putRow_grown _ _ _ _ _ _⟩
  have h2 := Lib.ownsRow_putRow (q := q) (k := n) (ys := l.reverse) hown (by simp; omega) (by omega)
  rw [List.take_of_length_le (by simp; omega)] at h2
  exact h2
end Go.Proofs.Ytdbejalcedpdjaa

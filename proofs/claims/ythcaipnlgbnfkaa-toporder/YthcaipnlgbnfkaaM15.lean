/-
  Several of our texts, one behind the other, each under its own words; no condition but those that each states.
-/
import Derived.Test.YthcaipnlgbnfkaaM4
import Derived.Test.YthcaipnlgbnfkaaApp
import Derived.Test.YthcaipnlgbnfkaaPureA
import Derived.Lib.AppendZeros
import Derived.Test.YthcaipnlgbnfkaaShelf
import Derived.WalkKit
import Derived.KernelRfl
import Derived.Laws.NewBlocks
import Derived.Test.YthcaipnlgbnfkaaProg
/-
  slices.Grow of nil, slices.Concat of slices of ints: what they return is the call's own; nothing that was there is written.
-/
namespace Go.Proofs.Ythcaipnlgbnfkaa
open Go.RowKit Fm
set_option linter.unusedVariables false

theorem own_grown0 (w : World) (n : Nat) (hn : n ≤ 1000000) : (w.drew.alloc (.cells (Builtin.zeroCells (Value.int .i64 0).cells n ++ Builtin.zeroCells (Value.int .i64 0).cells (grownCap w n 0 3 - n)) 3)).ownsRow w.heap.size 3 1 (.slice (some ⟨w.heap.size, 0, none⟩) 0 (grownCap w n 0 3)) 0 (I []) := by
  have h1 := grownCap_ge w n 0 3
  have h2 := grownCap_le_maxLen w n 0 3 (by unfold maxLen; omega)
  refine ⟨rfl, .inr ⟨w.heap.size, _, _, rfl, Nat.le_refl _, heap_alloc_new w.drew _, Nat.zero_le _, h2, ?_, ?_⟩⟩
  · rw [Array.size_append, size_zeroCells, size_zeroCells]
    have : (Value.int .i64 0).cells.size = 1 := rfl
    rw [this]; omega
  · simp [I]

set_option maxHeartbeats 400000 in
set_option maxRecDepth 100000 in
theorem grow_nil (n : Nat) (hn : n ≤ 1000000) (w : World) :
    Calls Try.prog 97 #[.slice none 0 0, .int .i64 n] w fun e w' => ∃ v, e = .returned v ∧ w'.ownsRow w.heap.size 3 1 v 0 (I []) ∧ Below w.heap.size w w' := by
  by_cases h0 : n = 0
  · subst h0
    go_enter Try.func97, Try.ntmps97
    go_wp2
    go_ret
    exact ⟨_, rfl, World.ownsRow_nil _ _ _ _, Below.refl _ w⟩
  · have hp : 0 < (n : Int) := by omega
    obtain ⟨i0, hi, hz0, hz1, hz2⟩ := info_parts info_int
    have hrun : ∀ ty, _ := fun ty => Lib.run_append_nil_zeros (P := Try.prog) w 22 3 ty 3 i0 (.int .i64 0) .i64 .i64 Try.underlying22 Try.underlying3 hi hz0 n (by omega) (by rw [hz1]; omega) (by omega) (by rw [hz2]; omega)
    have HRUN := Lib.hid hrun
    have HO := Lib.hid (own_grown0 w n hn)
    have hcg := grownCap_ge w n 0 3
    have HB : Hid (Below w.heap.size w (w.drew.alloc (.cells (Builtin.zeroCells (Value.int .i64 0).cells n ++ Builtin.zeroCells (Value.int .i64 0).cells (grownCap w n 0 3 - n)) 3))) := (Below.refl _ w).drew.alloc (Nat.le_refl _) _
    clear hrun
    go_enter Try.func97, Try.ntmps97
    go_wp2_with (at_builtin; refine Lib.wpList_append_run _ rfl _ _ _ _ rfl _ _ rfl rfl _ _ (HRUN.out _) ?_)
    clear HRUN
    go_wp2
    go_ret
    exact ⟨_, rfl, HO.out, HB.out⟩

theorem flat_succ (L : List (List Int)) {k : Nat} (h : k < L.length) : (L.take (k + 1)).flatten = (L.take k).flatten ++ L.getD k [] := by
  rw [List.take_succ_eq_append_getElem h, List.flatten_append, List.getD_eq_getElem?_getD, List.getElem?_eq_getElem h]
  simp
theorem flat_le (L : List (List Int)) (k : Nat) : (L.take k).flatten.length ≤ L.flatten.length := by
  conv => rhs; rw [← List.take_append_drop k L, List.flatten_append, List.length_append]
  omega

set_option maxHeartbeats 1000000 in
set_option maxRecDepth 100000 in
theorem concat_any (L : List (List Int)) (a : Option Addr) (m c : Nat) (w : World) (B : Nat) (hB : B ≤ w.heap.size) (hr : RdR w B a m L) (hm : m ≤ 1000) (hL : L.flatten.length ≤ 1000) :
    Calls Try.prog 71 #[.slice a m c] w fun e w' => ∃ v, e = .returned v ∧ w'.ownsRow w.heap.size 3 1 v L.flatten.length (I L.flatten) ∧ Below w.heap.size w w' := by
  have HLN := Lib.hid hr.1
  have HR := Lib.hid hr
  clear hr
  go_enter Try.func71, Try.ntmps71
  go_wp2_with fail
  go_loopw [3, 11] (fun sv iv wr => ∃ k : Nat, k ≤ m ∧ iv = .int .i64 k ∧ sv = .int .i64 (((L.take k).flatten.length : Nat) : Int) ∧ w = wr) (fun _ iv _ => m - (intOf iv).toNat)
  case atStart => exact ⟨0, Nat.zero_le _, rfl, by simp, rfl⟩
  case round =>
    obtain ⟨k, hk, rfl, rfl, rfl⟩ := hrel
    by_cases hkm : k < m
    · obtain ⟨b, o, a', c', rfl, hb, hcell, h1, h2, h3, hrd⟩ := HR.out.at_ hkm
      have hkl : k < L.length := by rw [HLN.out]; exact hkm
      have HS : Hid ((L.take (k + 1)).flatten.length = (L.take k).flatten.length + (L.getD k []).length) := by show _ = _; rw [flat_succ L hkl, List.length_append]
      have hle := flat_le L (k + 1)
      rw [HS.out] at hle
      clear hrd h1 h2 h3 hkl
      generalize (L.getD k []).length = ln at *
      generalize (L.take k).flatten.length = s at *
      go_wp2
      go_roundw
      case rel => exact ⟨k + 1, by omega, by go_num, by rw [HS.out]; rfl, by first | rfl | trivial⟩
      case measure => simp [intOf]; omega
    · obtain rfl : k = m := by omega
      have e1 : L.take k = L := List.take_of_length_le (by rw [HLN.out]; exact Nat.le_refl _)
      rw [e1]
      clear e1
      obtain ⟨T, hT⟩ : ∃ T, L.flatten.length = T := ⟨_, rfl⟩
      rw [hT] at hL ⊢
      have HTT := Lib.hid hT
      clear hT
      go_wp2_with fail
      refine (grow_nil T (by omega) w).mono ?_
      rintro e w1 ⟨v1, rfl, o1, hb1⟩
      go_wp2_with fail
      go_loopw [6, 27] (fun v iv wr => ∃ j : Nat, j ≤ k ∧ iv = .int .i64 j ∧ wr.ownsRow w.heap.size 3 1 v (L.take j).flatten.length (I (L.take j).flatten) ∧ Below w.heap.size w wr) (fun _ iv _ => k - (intOf iv).toNat)
      case atStart => exact ⟨0, Nat.zero_le _, rfl, by simpa using o1, hb1⟩
      case round =>
        obtain ⟨j, hj, rfl, own, hbel⟩ := hrel
        clear o1 hb1
        have hz := hbel.size
        by_cases hjk : j < k
        · obtain ⟨b, o, a', c', rfl, hb, hcell, h1, h2, h3, hrd⟩ := HR.out.at_ hjk
          have hkl : j < L.length := by rw [HLN.out]; exact hjk
          have HS := Lib.hid (flat_succ L hkl)
          have hct : wr.cell? ⟨b, o + j, none⟩ = some (.slice a' (L.getD j []).length c') := (hbel.cell (by show b < _; omega)).trans hcell
          have RD := Lib.hid (hrd.below hbel hB)
          have hle := flat_le L (j + 1)
          rw [HS.out, HTT.out, List.length_append] at hle
          clear hrd hcell
          generalize L.getD j [] = p at *
          generalize (L.take j).flatten = q at *
          go_wp2_with (at_builtin; go_must (refine wpApp wr w.heap.size _ q.length q (by exact own) a' p.length c' p B h2 RD.out hz (by omega) (by omega) rfl _ _ rfl rfl rfl ?_))
          intro v2 w2 own2 hgr _
          have hb2 := hbel.grown hgr hz (own_not own)
          clear hgr own hbel hct
          rw [← List.length_append, ← HS.out] at own2
          go_wp2
          go_roundw
          case rel => exact ⟨j + 1, by omega, by go_num, own2, hb2⟩
          case measure => simp [intOf]; omega
        · obtain rfl : j = k := by omega
          have e1 : L.take j = L := List.take_of_length_le (by rw [HLN.out]; exact Nat.le_refl _)
          rw [e1, HTT.out] at own
          go_wp2
          go_ret
          exact ⟨_, rfl, by rw [HTT.out]; exact own, hbel⟩
end Go.Proofs.Ythcaipnlgbnfkaa

/-
  slices.Reverse of a row of the caller's own, or of its tail: what it writes.
-/
namespace Go.Proofs.Ythcaipnlgbnfkaa
open Go.RowKit Fm
set_option linter.unusedVariables false

/-- slices.Reverse of a row of the caller's own. -/
theorem reverse_own (base g n cap : Nat) (l : List Int) (w : World) (hown : w.ownsRow base 3 1 (.slice (some ⟨g, 0, none⟩) n cap) n (I l)) (hn : n ≤ 9223372036854775807) :
    Calls Try.prog 70 #[.slice (some ⟨g, 0, none⟩) n cap] w fun e w' =>
      e = .returned (.tuple #[]) ∧ w'.ownsRow base 3 1 (.slice (some ⟨g, 0, none⟩) n cap) n (I l.reverse) ∧ w.grownBy w' (some g) := by
  obtain ⟨g', cap', hv, _, _, hnc, hcm, hl, hH⟩ := Lib.holds_of_ownsRow hown (by simp)
  injection hv with hv1 _ hv3
  injection hv1 with hv1
  injection hv1 with hv1
  subst hv1; subst hv3
  have h := Try.slices_Reverse_int g 0 cap l w hH (by omega)
  rw [hl] at h
  refine h.mono ?_
  rintro e w' ⟨rfl, q, rfl⟩
  refine ⟨rfl, ?_, putRow_grown _ _ _ _ _ _⟩
  have h2 := Lib.ownsRow_putRow (q := q) (k := n) (ys := l.reverse) hown (by simp; omega) (by omega)
  rw [List.take_of_length_le (by simp; omega)] at h2
  exact h2

/-- slices.Reverse of the tail of a row of the caller's own. -/
theorem reverse_tail (base g n cap k c : Nat) (l : List Int) (w : World) (hown : w.ownsRow base 3 1 (.slice (some ⟨g, 0, none⟩) n cap) n (I l)) (hk : k < n) (hn : n ≤ 1000000) :
    Calls Try.prog 70 #[.slice (some ⟨g, k, none⟩) (n - k) c] w fun e w' =>
      e = .returned (.tuple #[]) ∧ w'.ownsRow base 3 1 (.slice (some ⟨g, 0, none⟩) n cap) n (I (turnTail l k)) ∧ w.grownBy w' (some g) := by
  have hl := own_len hown
  obtain ⟨g', cap', hv, _, _, _, _, hc⟩ := own_form hown (by omega)
  injection hv with hv1
  injection hv1 with hv1
  injection hv1 with hv1
  subst hv1
  refine (Try.slices_Reverse_int_cells g k (n - k) c (l.drop k) w (by simp; omega) (by omega) (fun j hj => ?_) (fun j hj => hown.frozenAt _)).mono ?_
  · rw [List.length_drop] at hj
    rw [hc (k + j) (by omega)]
    simp [List.getD_eq_getElem?_getD, List.getElem?_drop]
  · rintro e w' ⟨rfl, q, rfl⟩
    rw [List.take_of_length_le (by simp; omega)]
    have h0 : (w.drewN q).ownsRow base 3 1 (.slice (some ⟨g, 0, none⟩) n cap) n (I l) := hown
    obtain ⟨h1, h2⟩ := own_setCells ((l.drop k).reverse.map (Value.int .i64)) k (w.drewN q) (I l) h0
    rw [setMany_I _ _ _ (by simp; omega)] at h1
    exact ⟨rfl, h1, ⟨h2.os, h2.tape, h2.output, h2.size, h2.block⟩⟩
end Go.Proofs.Ythcaipnlgbnfkaa

/-
  slices.Clone at slices of ints, nil let in: what it returns.
-/
namespace Go.Proofs.Ythcaipnlgbnfkaa
open Go.RowKit Fm
set_option linter.unusedVariables false

theorem clone_any (p : List Int) (a : Option Addr) (n c : Nat) (w : World) (B : Nat) (hp : Rd w B a n p) (hn : n * 8 ≤ 140737488355328) :
    Calls Try.prog 59 #[.slice a n c] w fun e w' => ∃ v, e = .returned v ∧ w'.ownsRow w.heap.size 3 1 v n (I p) ∧ Below w.heap.size w w' := by
  have hl := hp.1
  by_cases h0 : n = 0
  · subst h0
    have e1 := List.eq_nil_of_length_eq_zero hl
    subst e1
    cases a with
    | none =>
      refine (Try.slices_Clone_int_nil 0 c w).mono ?_
      rintro e w' ⟨rfl, rfl⟩
      exact ⟨_, rfl, World.ownsRow_nil _ _ _ _, Below.refl _ _⟩
    | some a =>
      refine (Try.slices_Clone_int_zero a c w).mono ?_
      rintro e w' ⟨v, rfl, h, _, hb⟩
      exact ⟨v, rfl, h, hb⟩
  · obtain ⟨b, o, rfl, _, hc⟩ := hp.2 (by omega)
    refine (Try.slices_Clone_int b o n c p w (by omega) hn (fun j hj => hc j (by omega))).mono ?_
    rintro e w' ⟨v, rfl, h, _, hb⟩
    rw [List.take_of_length_le (by omega)] at h
    exact ⟨v, rfl, h, hb⟩
end Go.Proofs.Ythcaipnlgbnfkaa

/-
  slices.Contains and slices.Max at ints.
-/
namespace Go.Proofs.Ythcaipnlgbnfkaa
open Go.RowKit Fm
set_option linter.unusedVariables false

theorem contains_any (p : List Int) (x : Int) (a : Option Addr) (n c : Nat) (w : World) (B : Nat) (hp : Rd w B a n p) (hn : n ≤ 9223372036854775807) :
    Calls Try.prog 96 #[.slice a n c, .int .i64 x] w fun e w' => e = .returned (.bool (decide (x ∈ p))) ∧ w = w' := by
  have hl := hp.1
  by_cases h0 : n = 0
  · subst h0
    have e1 := List.eq_nil_of_length_eq_zero hl
    subst e1
    exact (Try.slices_Contains_int_empty a c x w).mono fun e w' ⟨h1, h2⟩ => ⟨by rw [h1]; simp, h2.symm⟩
  · obtain ⟨b, o, rfl, _, hc⟩ := hp.2 (by omega)
    have h := Try.slices_Contains_int b o n c p x w (by omega) hn (fun j hj => hc j (by omega))
    rw [List.take_of_length_le (by omega)] at h
    exact h.mono fun e w' ⟨h1, h2⟩ => ⟨by rw [h1, List.contains_eq_mem], h2.symm⟩

/-- The same, for a region that only reads. -/
theorem contains_q (p : List Int) (x : Int) (a : Option Addr) (n c : Nat) (w : World) (B : Nat) (hp : Rd w B a n p) (hn : n ≤ 9223372036854775807) (r : Bool) (hr : decide (x ∈ p) = r) :
    Calls Try.prog 96 #[.slice a n c, .int .i64 x] w fun e w' => e = .returned (.bool r) ∧ w' = w :=
  (contains_any p x a n c w B hp hn).mono fun e w' ⟨h1, h2⟩ => ⟨by rw [h1, hr], h2.symm⟩

theorem max_any (p : List Int) (a : Option Addr) (n c : Nat) (w : World) (B : Nat) (h0 : 0 < n) (hp : Rd w B a n p) (hn : n ≤ 9223372036854775807) :
    Calls Try.prog 78 #[.slice a n c] w fun e w' => e = .returned (.int .i64 (Lib.maxOf p)) ∧ w = w' := by
  have hl := hp.1
  obtain ⟨b, o, rfl, _, hc⟩ := hp.2 h0
  have h := Try.slices_Max_int b o n c p w h0 (by omega) hn (fun j hj => hc j (by omega))
  rw [List.take_of_length_le (by omega)] at h
  exact h.mono fun e w' ⟨h1, h2⟩ => ⟨h1, h2.symm⟩

end Go.Proofs.Ythcaipnlgbnfkaa

/-
  slices.ContainsFunc at slices of slices, none of which the closure takes; plumekeep.tableOf at square tables: what they return; nothing that was there is written.
-/
import Derived.Test.YtcjhgkmodfkmoaaProg
import Derived.Test.YtcjhgkmodfkmoaaPureA
import Derived.WalkKit
import Derived.KernelRfl
import Derived.Laws.NewBlocks
import Derived.Shelf.Abstract
namespace Go.Proofs.Ytcjhgkmodfkmoaa
open Go.RowKit Fm
set_option linter.unusedVariables false

set_option maxHeartbeats 400000 in
set_option maxRecDepth 100000 in
theorem indexRows_none (f : FuncId) (cap : Value) (a : Option Addr) (m c : Nat) (L : List (List Int)) (w : World) (B : Nat) (hB : B ≤ w.heap.size) (hr : RdR w B a m L) (hm : m ≤ 1000000)
    (hcl : ∀ (W : World) (a' : Option Addr) (c' : Nat) (l : List Int), l ∈ L → Below w.heap.size w W → Rd W B a' l.length l → Calls Try.prog f #[.slice a' l.length c', cap] W fun e w' => e = .returned (.bool false) ∧ Below W.heap.size W w')
    (hen : ∀ args w, (callFunc f args).run Try.prog w = .ok (.enter f args) w) :
    Calls Try.prog 49 #[.slice a m c, .func (.func f) #[] #[cap]] w fun e w' => e = .returned (.int .i64 (-1)) ∧ Below w.heap.size w w' := by
  have HR := Lib.hid hr
  have HL := Lib.hid hr.1
  have HC := Lib.hid hcl
  clear hr hcl
  go_enter Try.func49, Try.ntmps49
  go_wp2
  go_loopw [8] (fun i wr => ∃ j : Nat, j ≤ m ∧ i = .int .i64 j ∧ Below w.heap.size w wr) (fun i _ => m - (intOf i).toNat)
  case atStart => exact ⟨0, Nat.zero_le _, rfl, Below.refl _ _⟩
  case round =>
    obtain ⟨j, hj, rfl, hbel⟩ := hrel
    have hz := hbel.size
    by_cases hlt : j < m
    · obtain ⟨b, o, a', c', rfl, hb, hcell, _, _, _, hrd⟩ := HR.out.at_ hlt
      have hck : wr.cell? ⟨b, o + j, none⟩ = some (.slice a' (L.getD j []).length c') := (hbel.cell (by show b < _; omega)).trans hcell
      have hjl : j < L.length := by rw [HL.out]; exact hlt
      have HM : Hid (L.getD j [] ∈ L) := by show _ ∈ _; rw [List.getD_eq_getElem?_getD, List.getElem?_eq_getElem hjl]; exact List.getElem_mem hjl
      have RD := Lib.hid (hrd.below hbel hB)
      clear hcell hrd
      generalize L.getD j [] = l at *
      go_wp2_with fail
      refine (HC.out wr a' c' l HM.out hbel RD.out).mono ?_
      rintro e w1 ⟨rfl, hb1⟩
      have hb2 := hbel.trans (hb1.mono hz)
      clear hb1 hbel hck
      go_wp2
      go_roundw
      case rel => exact ⟨j + 1, by omega, by go_num, hb2⟩
      case measure => simp [intOf]; omega
    · go_wp2
      go_ret
      exact ⟨rfl, hbel⟩

set_option maxHeartbeats 400000 in
set_option maxRecDepth 100000 in
theorem containsRows_none (f : FuncId) (cap : Value) (a : Option Addr) (m c : Nat) (L : List (List Int)) (w : World) (B : Nat) (hB : B ≤ w.heap.size) (hr : RdR w B a m L) (hm : m ≤ 1000000)
    (hcl : ∀ (W : World) (a' : Option Addr) (c' : Nat) (l : List Int), l ∈ L → Below w.heap.size w W → Rd W B a' l.length l → Calls Try.prog f #[.slice a' l.length c', cap] W fun e w' => e = .returned (.bool false) ∧ Below W.heap.size W w')
    (hen : ∀ args w, (callFunc f args).run Try.prog w = .ok (.enter f args) w) :
    Calls Try.prog 33 #[.slice a m c, .func (.func f) #[] #[cap]] w fun e w' => e = .returned (.bool false) ∧ Below w.heap.size w w' := by
  have HC := Lib.hid (indexRows_none f cap a m c L w B hB hr hm hcl hen)
  clear hr hcl hen
  go_enter Try.func33, Try.ntmps33
  go_wp2_with fail
  refine HC.out.mono ?_
  rintro e w1 ⟨rfl, hb⟩
  clear HC
  go_wp2
  go_ret
  exact ⟨rfl, hb⟩

set_option maxHeartbeats 400000 in
set_option maxRecDepth 100000 in
theorem tableOf1_same (n : Nat) (a : Option Addr) (c g : Nat) (w : World) (hg : w.cell? ⟨g, 0, none⟩ = some (.int .i64 n)) :
    Calls Try.prog 43 #[.slice a n c, .pointer (some ⟨g, 0, none⟩)] w fun e w' => e = .returned (.bool false) ∧ Below w.heap.size w w' := by
  go_enter Try.func43, Try.ntmps43
  go_wp2
  go_ret
  exact ⟨rfl, Below.refl _ _⟩

theorem enters_tableOf1 : ∀ args w, (callFunc 43 args).run Try.prog w = .ok (.enter 43 args) w := enters_of Try.func43 (by kernel_rfl) rfl

set_option maxHeartbeats 400000 in
set_option maxRecDepth 100000 in
theorem tableOf_true (n : Nat) (a : Option Addr) (c : Nat) (M : List (List Int)) (w : World) (B : Nat) (hB : B ≤ w.heap.size) (hn : n ≤ 1000000) (hr : RdR w B a n M) (hM : ∀ l ∈ M, l.length = n) :
    Calls Try.prog 22 #[.slice a n c, .int .i64 n] w fun e w' => e = .returned (.bool true) ∧ Below w.heap.size w w' := by
  have hcell : (w.alloc (.cells #[.int .i64 n] 3)).cell? ⟨w.heap.size, 0, none⟩ = some (.int .i64 n) := by rw [World.cell?_alloc_new]; rfl
  have HC := Lib.hid (containsRows_none 43 (.pointer (some ⟨w.heap.size, 0, none⟩)) a n c M (w.alloc (.cells #[.int .i64 n] 3)) B (by simp; omega) (hr.alloc hB _) hn
    (fun W a' c' l hl hb _ => by rw [hM l hl]; exact tableOf1_same n a' c' w.heap.size W ((hb.cell (by simp)).trans hcell)) enters_tableOf1)
  clear hr hM hcell
  go_enter Try.func22, Try.ntmps22
  go_wp2_with fail
  refine HC.out.mono ?_
  rintro e w1 ⟨rfl, hb⟩
  have hb2 := ((Below.refl _ w).alloc (Nat.le_refl _) (.cells #[.int .i64 n] 3)).trans (hb.mono (by simp))
  clear HC hb
  go_wp2
  go_ret
  exact ⟨rfl, hb2⟩
end Go.Proofs.Ytcjhgkmodfkmoaa

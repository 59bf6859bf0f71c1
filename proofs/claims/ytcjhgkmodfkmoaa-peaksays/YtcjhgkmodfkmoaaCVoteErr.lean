/-
  plumeref.VoteErr answers vchk, for every int and every slice of slices of ints that a machine can hold; nothing that was there is written.
-/
import Derived.Test.YtcjhgkmodfkmoaaCOrderErr
import Derived.Test.YtcjhgkmodfkmoaaPureA
import Derived.WalkKit
import Derived.KernelRfl
import Derived.Laws.NewBlocks
namespace Go.Proofs.Ytcjhgkmodfkmoaa
open Go.RowKit Fm
set_option linter.unusedVariables false

set_option maxHeartbeats 400000 in
set_option maxRecDepth 100000 in
theorem voteErr1_any (n : Int) (a : Option Addr) (m c g : Nat) (l : List Int) (w : World) (B : Nat) (hB : B ≤ w.heap.size) (hr : Rd w B a m l) (hm8 : m * 8 ≤ 140737488355328) (hg : w.cell? ⟨g, 0, none⟩ = some (.int .i64 n)) :
    Calls Try.prog 34 #[.slice a m c, .pointer (some ⟨g, 0, none⟩)] w fun e w' => e = .returned (.bool (chk n l != 0)) ∧ Below w.heap.size w w' := by
  have HR := Lib.hid hr
  clear hr
  go_enter Try.func34, Try.ntmps34
  go_wp2_with fail
  refine (orderErr_any n a m c l w B hB HR.out hm8).mono ?_
  rintro e w1 ⟨rfl, hb⟩
  clear hg
  generalize hr : chk n l = r
  have HRR := Lib.hid hr
  clear hr
  go_wp2
  go_ret
  exact ⟨by rw [HRR.out]; rfl, hb⟩

/-- What slices.IndexFunc leaves: -1 just if all are right. -/
def IdxOut (ok : Prop) (w : World) (e : Ending) (w' : World) : Prop := ∃ r : Int, e = .returned (.int .i64 r) ∧ (ok → r = -1) ∧ (¬ ok → 0 ≤ r) ∧ Below w.heap.size w w'

set_option maxHeartbeats 400000 in
set_option maxRecDepth 100000 in
theorem indexVote_any (n : Int) (a : Option Addr) (m c g : Nat) (L : List (List Int)) (w : World) (B : Nat) (hB : B ≤ w.heap.size) (hr : RdR w B a m L) (hm : m ≤ 1000000) (h8 : ∀ l ∈ L, l.length * 8 ≤ 140737488355328) (hgB : g < w.heap.size) (hg : w.cell? ⟨g, 0, none⟩ = some (.int .i64 n)) :
    Calls Try.prog 49 #[.slice a m c, .func (.func 34) #[] #[.pointer (some ⟨g, 0, none⟩)]] w (IdxOut (∀ l ∈ L, chk n l = 0) w) := by
  have HR := Lib.hid hr
  have HL := Lib.hid hr.1
  have H8 := Lib.hid h8
  have HG := Lib.hid hg
  clear hr h8 hg
  go_enter Try.func49, Try.ntmps49
  go_wp2
  go_loopw [8] (fun i wr => ∃ j : Nat, j ≤ m ∧ i = .int .i64 j ∧ (∀ t, t < j → chk n (L.getD t []) = 0) ∧ Below w.heap.size w wr) (fun i _ => m - (intOf i).toNat)
  case atStart => exact ⟨0, Nat.zero_le _, rfl, fun t ht => by omega, Below.refl _ _⟩
  case round =>
    obtain ⟨j, hj, rfl, hall, hbel⟩ := hrel
    have HA := Lib.hid hall
    clear hall
    have hz := hbel.size
    by_cases hlt : j < m
    · obtain ⟨b, o, a', c', rfl, hb, hcell, _, _, _, hrd⟩ := HR.out.at_ hlt
      have hck : wr.cell? ⟨b, o + j, none⟩ = some (.slice a' (L.getD j []).length c') := (hbel.cell (by show b < _; omega)).trans hcell
      have hjl : j < L.length := by rw [HL.out]; exact hlt
      have hmem : L.getD j [] ∈ L := by rw [List.getD_eq_getElem?_getD, List.getElem?_eq_getElem hjl]; exact List.getElem_mem hjl
      have hl8 := H8.out _ hmem
      have RD := Lib.hid (hrd.below hbel hB)
      have hgw : wr.cell? ⟨g, 0, none⟩ = some (.int .i64 n) := (hbel.cell hgB).trans HG.out
      have HGW := Lib.hid hgw
      have HMEM := Lib.hid hmem
      clear hcell hrd hmem hgw
      by_cases hok : chk n (L.getD j []) = 0
      · have HOK := Lib.hid hok
        have hbo : (chk n (L.getD j []) != 0) = false := by simpa using hok
        have HBO := Lib.hid hbo
        clear hok hbo
        generalize hl : L.getD j [] = l at *
        have HLE := Lib.hid hl
        clear hl
        go_wp2_with fail
        refine (voteErr1_any n a' l.length c' g l wr B (by omega) RD.out hl8 HGW.out).mono ?_
        rintro e w1 ⟨rfl, hb1⟩
        rw [HBO.out]
        have hb2 := hbel.trans (hb1.mono hz)
        clear hb1 hbel hck
        go_wp2
        go_roundw
        case rel => exact ⟨j + 1, by omega, by go_num, fun t ht => by
          by_cases e : t = j
          · subst e; rw [HLE.out]; exact HOK.out
          · exact HA.out t (by omega), hb2⟩
        case measure => simp [intOf]; omega
      · have HOK := Lib.hid hok
        have hbo : (chk n (L.getD j []) != 0) = true := by simpa using hok
        have HBO := Lib.hid hbo
        have hnot : ¬ ∀ l ∈ L, chk n l = 0 := fun h => hok (h _ HMEM.out)
        have HNOT := Lib.hid hnot
        clear hok hbo hnot
        generalize L.getD j [] = l at *
        go_wp2_with fail
        refine (voteErr1_any n a' l.length c' g l wr B (by omega) RD.out hl8 HGW.out).mono ?_
        rintro e w1 ⟨rfl, hb1⟩
        rw [HBO.out]
        have hb2 := hbel.trans (hb1.mono hz)
        clear hb1 hbel hck
        go_wp2
        go_ret
        exact ⟨j, rfl, fun h => absurd h HNOT.out, fun _ => by omega, hb2⟩
    · obtain rfl : j = m := by omega
      have hall : ∀ l ∈ L, chk n l = 0 := all_getD (fun t ht => HA.out t (by rw [← HL.out]; exact ht))
      have HALL := Lib.hid hall
      clear hall
      go_wp2
      go_ret
      exact ⟨-1, rfl, fun _ => rfl, fun h => absurd HALL.out h, hbel⟩

set_option maxHeartbeats 400000 in
set_option maxRecDepth 100000 in
theorem containsVote (n : Int) (a : Option Addr) (m c g : Nat) (L : List (List Int)) (w : World) (B : Nat) (hB : B ≤ w.heap.size) (hr : RdR w B a m L) (hm : m ≤ 1000000) (h8 : ∀ l ∈ L, l.length * 8 ≤ 140737488355328) (hgB : g < w.heap.size) (hg : w.cell? ⟨g, 0, none⟩ = some (.int .i64 n)) (ok : Bool) (hok : ok = true ↔ ∀ l ∈ L, chk n l = 0) :
    Calls Try.prog 33 #[.slice a m c, .func (.func 34) #[] #[.pointer (some ⟨g, 0, none⟩)]] w fun e w' => e = .returned (.bool (!ok)) ∧ Below w.heap.size w w' := by
  have HC := Lib.hid (indexVote_any n a m c g L w B hB hr hm h8 hgB hg)
  have HOK := Lib.hid hok
  clear hr h8 hg hok
  go_enter Try.func33, Try.ntmps33
  go_wp2_with fail
  refine HC.out.mono ?_
  rintro e w1 ⟨r, rfl, h1, h2, hb⟩
  cases ok with
  | true =>
    obtain rfl := h1 (HOK.out.1 rfl)
    clear h1 h2 HC
    go_wp2
    go_ret
    exact ⟨rfl, hb⟩
  | false =>
    have hr0 := h2 (fun h => by have := HOK.out.2 h; cases this)
    clear h1 h2 HC
    go_wp2
    go_ret
    exact ⟨rfl, hb⟩

set_option maxHeartbeats 400000 in
set_option maxRecDepth 100000 in
theorem voteErr_arg (n : Int) (a : Option Addr) (m c : Nat) (w : World) (hn : n < 1 ∨ 6 < n) :
    Calls Try.prog 12 #[.int .i64 n, .slice a m c] w fun e w' => e = .returned (.int .i64 1) ∧ Below w.heap.size w w' := by
  rcases hn with hn | hn
  · go_enter Try.func12, Try.ntmps12
    go_wp2
    go_ret
    exact ⟨rfl, (Below.refl _ w).alloc (Nat.le_refl _) _⟩
  · have h1 : ¬ n < 1 := by omega
    go_enter Try.func12, Try.ntmps12
    go_wp2
    go_ret
    exact ⟨rfl, (Below.refl _ w).alloc (Nat.le_refl _) _⟩

set_option maxHeartbeats 400000 in
set_option maxRecDepth 100000 in
theorem voteErr_any (n : Int) (a : Option Addr) (m c : Nat) (L : List (List Int)) (w : World) (B : Nat) (hB : B ≤ w.heap.size) (hr : RdR w B a m L) (h8 : ∀ l ∈ L, l.length * 8 ≤ 140737488355328) :
    Calls Try.prog 12 #[.int .i64 n, .slice a m c] w fun e w' => e = .returned (.int .i64 (vchk n L)) ∧ Below w.heap.size w w' := by
  obtain rfl := hr.1
  by_cases h : n < 1 ∨ 6 < n
  · rw [vchk_arg h]
    exact voteErr_arg n a _ c w h
  · have h1 : ¬ n < 1 := by omega
    have h6 : ¬ 6 < n := by omega
    by_cases hl : 30 < L.length
    · rw [vchk_large h hl]
      clear hr h8 h
      go_enter Try.func12, Try.ntmps12
      go_wp2
      go_ret
      exact ⟨rfl, (Below.refl _ w).alloc (Nat.le_refl _) _⟩
    · obtain ⟨ok, hok⟩ : ∃ ok : Bool, ok = true ↔ ∀ l ∈ L, chk n l = 0 := ⟨decide (∀ l ∈ L, chk n l = 0), by simp⟩
      have HC := Lib.hid (containsVote n a L.length c w.heap.size L (w.alloc (.cells #[.int .i64 n] 3)) B (by simp; omega) (hr.alloc hB _) (by omega) h8 (by simp) (by rw [World.cell?_alloc_new]; rfl) ok hok)
      have hres : vchk n L = if ok = true then 0 else 3 := by
        cases ok with
        | true => rw [vchk_ok h hl (hok.1 rfl)]; rfl
        | false => rw [vchk_form h hl (fun c => by have := hok.2 c; cases this)]; rfl
      rw [hres]
      clear hr h8 h hok hres
      cases ok with
      | true =>
        go_enter Try.func12, Try.ntmps12
        go_wp2_with fail
        refine HC.out.mono ?_
        rintro e w1 ⟨rfl, hb⟩
        have hb2 := ((Below.refl _ w).alloc (Nat.le_refl _) (.cells #[.int .i64 n] 3)).trans (hb.mono (by simp))
        clear HC hb
        go_wp2
        go_ret
        exact ⟨rfl, hb2⟩
      | false =>
        go_enter Try.func12, Try.ntmps12
        go_wp2_with fail
        refine HC.out.mono ?_
        rintro e w1 ⟨rfl, hb⟩
        have hb2 := ((Below.refl _ w).alloc (Nat.le_refl _) (.cells #[.int .i64 n] 3)).trans (hb.mono (by simp))
        clear HC hb
        go_wp2
        go_ret
        exact ⟨rfl, hb2⟩
end Go.Proofs.Ytcjhgkmodfkmoaa

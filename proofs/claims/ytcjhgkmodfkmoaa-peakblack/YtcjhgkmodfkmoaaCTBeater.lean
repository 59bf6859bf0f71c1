/-
  tally.Beater: at votes it returns who beats all others, or that there is none; otherwise the error of tally.Check; nothing that was there is written. With it: package tally keeps its contracts.
-/
import Derived.Test.YtcjhgkmodfkmoaaCTDuels
import Derived.Test.YtcjhgkmodfkmoaaTallyC
import Derived.BigQuiet
import Derived.Deep.QuietTactic
import Derived.WalkKit
import Derived.KernelRfl
import Derived.Laws.NewBlocks

import Derived.Test.YtcjhgkmodfkmoaaCTPoints
/- 35 -/

import Derived.Test.YtcjhgkmodfkmoaaCTFirsts
/- 29 -/

namespace Go.Proofs.Ytcjhgkmodfkmoaa
open Go.RowKit Fm
set_option linter.unusedVariables false

set_option maxHeartbeats 2000000 in
set_option maxRecDepth 100000 in
theorem beatsOthers_any {n : Nat} (h1 : 1 ≤ n) (h6 : n ≤ 1000) (a : Option Addr) (c : Nat) (M : List (List Int)) (w : World) (B : Nat) (hB : B ≤ w.heap.size) (hr : RdR w B a n M) (hl : ∀ l ∈ M, l.length = n) (x : Nat) (hx : x < n) :
    Calls Try.prog 40 #[.slice a n c, .int .i64 x] w fun e w' => ∃ r : Bool, e = .returned (.bool r) ∧ (r = true ↔ ∀ y, y < n → y ≠ x → ent M y x < ent M x y) ∧ Below w.heap.size w w' := by
  have HML := Lib.hid hr.1
  obtain ⟨b, o, rfl, hbB, hrows⟩ := hr.2 (by omega)
  have HROW : Hid (∀ x, x < n → ∃ bx ox cx, w.cell? ⟨b, o + x, none⟩ = some (.slice (some ⟨bx, ox, none⟩) n cx) ∧ bx < B ∧ ∀ y, y < n → w.cell? ⟨bx, ox + y, none⟩ = some (.int .i64 (ent M x y))) := fun x hx => by
    obtain ⟨a', c', h2, _, _, _, h5⟩ := hrows x hx
    have hxl : x < M.length := by rw [HML.out]; exact hx
    have hm : M.getD x [] ∈ M := by rw [List.getD_eq_getElem?_getD, List.getElem?_eq_getElem hxl]; exact List.getElem_mem hxl
    have hln := hl _ hm
    rw [hln] at h2 h5
    obtain ⟨bx, ox, rfl, h6, h7⟩ := h5.2 (by omega)
    exact ⟨bx, ox, c', h2, h6, h7⟩
  clear hrows hr hl
  go_enter Try.func40, Try.ntmps40
  go_wp2_with fail
  go_loopw [8] (fun i wr => ∃ j : Nat, j ≤ n ∧ i = .int .i64 j ∧ (∀ y, y < j → y ≠ x → ent M y x < ent M x y) ∧ Below w.heap.size w wr) (fun i _ => n - (intOf i).toNat)
  case atStart => exact ⟨0, Nat.zero_le _, rfl, fun y hy => by omega, Below.refl _ w⟩
  case round =>
    obtain ⟨j, hj, rfl, hall, hbel⟩ := hrel
    have HA := Lib.hid hall
    clear hall
    have hz := hbel.size
    by_cases hjn : j < n
    · by_cases hjx : j = x
      · subst hjx
        have HN : Hid (∀ y, y < j + 1 → y ≠ j → ent M y j < ent M j y) := fun y hy hne => HA.out y (by omega) hne
        go_wp2_with fail
        go_quiet (fail)
        go_wp2
        go_roundw
        case rel => exact ⟨j + 1, by omega, by go_num, HN.out, below_drewN hbel _⟩
        case measure => simp [intOf]; omega
      · obtain ⟨bx, ox, cx, hx1, hx2, hx3⟩ := HROW.out x hx
        obtain ⟨by_, oy, cy, hy1, hy2, hy3⟩ := HROW.out j hjn
        have r1 : wr.cell? ⟨b, o + x, none⟩ = some (.slice (some ⟨bx, ox, none⟩) n cx) := (hbel.cell (by show b < _; omega)).trans hx1
        have r2 : wr.cell? ⟨b, o + j, none⟩ = some (.slice (some ⟨by_, oy, none⟩) n cy) := (hbel.cell (by show b < _; omega)).trans hy1
        have r3 : wr.cell? ⟨bx, ox + j, none⟩ = some (.int .i64 (ent M x j)) := (hbel.cell (by show bx < _; omega)).trans (hx3 j hjn)
        have r4 : wr.cell? ⟨by_, oy + x, none⟩ = some (.int .i64 (ent M j x)) := (hbel.cell (by show by_ < _; omega)).trans (hy3 x hx)
        have hb1 : ((j : Int) != (x : Int)) = true := by simp; omega
        clear hx1 hx3 hy1 hy3
        by_cases hc : ent M x j ≤ ent M j x
        · have HN : Hid (¬ ∀ y, y < n → y ≠ x → ent M y x < ent M x y) := fun h => by have := h j hjn hjx; omega
          generalize ent M x j = e1 at r3 hc
          generalize ent M j x = e2 at r4 hc
          go_wp2_with fail
          go_quiet (fail)
          go_wp2
          go_ret
          exact ⟨false, rfl, ⟨(fun h => by cases h), fun h => absurd h HN.out⟩, below_drewN hbel _⟩
        · have HN : Hid (∀ y, y < j + 1 → y ≠ x → ent M y x < ent M x y) := fun y hy hne => by
            by_cases hyj : y = j
            · subst hyj; omega
            · exact HA.out y (by omega) hne
          have hc2 : ¬ ent M x j ≤ ent M j x := hc
          generalize ent M x j = e1 at r3 hc hc2
          generalize ent M j x = e2 at r4 hc hc2
          have hd : decide (e1 ≤ e2) = false := by simpa using hc
          go_wp2_with fail
          go_quiet (fail)
          go_wp2
          go_roundw
          case rel => exact ⟨j + 1, by omega, by go_num, HN.out, below_drewN hbel _⟩
          case measure => simp [intOf]; omega
    · obtain rfl : j = n := by omega
      go_wp2
      go_ret
      exact ⟨true, rfl, ⟨fun _ => HA.out, fun _ => rfl⟩, hbel⟩

theorem beaterE_any (n : Int) (a : Option Addr) (m c : Nat) (V : List (List Int)) (w : World) (B : Nat) (hB : B ≤ w.heap.size) (hr : RdR w B a m V) (hm : m ≤ 17592186044416) (hv : vchk n V ≠ 0) :
    Calls Try.prog 20 #[.int .i64 n, .slice a m c] w fun e w' => e = .returned (.tuple #[.int .i64 0, .int .i64 (vchk n V)]) ∧ Below w.heap.size w w' := by
  have HC := Lib.hid (duelsE_any n a m c V w B hB hr hm hv)
  have hne : (vchk n V != 0) = true := by simpa using hv
  clear hv hr
  generalize vchk n V = r at *
  go_enter Try.func20, Try.ntmps20
  go_wp2_with fail
  refine HC.out.mono ?_
  rintro e w1 ⟨a1, c1, rfl, hb⟩
  clear HC
  go_wp2
  go_ret2
  exact ⟨rfl, hb⟩

theorem beats_ent {n : Nat} {V : List (List Int)} {x : Nat} (hx : x < n) : (∀ y, y < n → y ≠ x → ent (duelsM n V) y x < ent (duelsM n V) x y) ↔ Beats n V x := by
  constructor
  · intro h
    refine ⟨hx, fun y hy hne => ?_⟩
    have := h y hy hne
    rw [ent_duels n V hy hx, ent_duels n V hx hy] at this
    omega
  · intro h y hy hne
    have := h.2 y hy hne
    rw [ent_duels n V hy hx, ent_duels n V hx hy]
    omega

set_option maxHeartbeats 2000000 in
set_option maxRecDepth 100000 in
theorem beater_any (n : Nat) (a : Option Addr) (m c : Nat) (V : List (List Int)) (w : World) (B : Nat) (hB : B ≤ w.heap.size) (hr : RdR w B a m V) (hm : m ≤ 17592186044416) (hv : vchk n V = 0) :
    Calls Try.prog 20 #[.int .i64 n, .slice a m c] w fun e w' => ((∃ x : Nat, Beats n V x ∧ e = .returned (.tuple #[.int .i64 x, .int .i64 0])) ∨ ((∀ x, ¬ Beats n V x) ∧ e = .returned (.tuple #[.int .i64 0, .int .i64 4]))) ∧ Below w.heap.size w w' := by
  have HC := Lib.hid (duels_any n a m c V w B hB hr hm hv)
  obtain ⟨⟨h1, h6⟩, hV, _⟩ := vchk_zero hv
  clear hv hr
  go_enter Try.func20, Try.ntmps20
  go_wp2_with fail
  refine HC.out.mono ?_
  rintro e w1 ⟨a1, c1, rfl, _, _, hr1, hb1⟩
  clear HC
  rw [duelsM_len] at hr1 ⊢
  have HR1 := Lib.hid hr1
  clear hr1
  go_wp2_with fail
  go_loopw [20] (fun i wr => ∃ k : Nat, k ≤ n ∧ i = .int .i64 k ∧ (∀ x, x < k → ¬ Beats n V x) ∧ Below w1.heap.size w1 wr) (fun i _ => n - (intOf i).toNat)
  case atStart => exact ⟨0, Nat.zero_le _, rfl, fun y hy => by omega, Below.refl _ w1⟩
  case round =>
    obtain ⟨k, hk, rfl, hall, hbel⟩ := hrel
    have HA := Lib.hid hall
    clear hall
    have hz := hbel.size
    by_cases hkn : k < n
    · go_wp2_with fail
      refine (beatsOthers_any (n := n) (by omega) (by omega) a1 c1 (duelsM n V) wr w1.heap.size hz (HR1.out.below hbel (Nat.le_refl _)) (fun l hl => duelsM_rows hl) k hkn).mono ?_
      rintro e w2 ⟨r, rfl, hiff, hb2⟩
      rw [beats_ent hkn] at hiff
      have HI := Lib.hid hiff
      have hbel2 := hbel.trans (hb2.mono hz)
      clear hiff hb2 hbel
      cases r with
      | true =>
        have HBT := Lib.hid (HI.out.1 rfl)
        go_wp2
        go_ret2
        exact ⟨.inl ⟨k, HBT.out, rfl⟩, hb1.trans (hbel2.mono hb1.size)⟩
      | false =>
        have HN : Hid (∀ x, x < k + 1 → ¬ Beats n V x) := fun x hx hb => by
          by_cases he : x = k
          · subst he; have := HI.out.2 hb; cases this
          · exact HA.out x (by omega) hb
        go_wp2
        go_roundw
        case rel => exact ⟨k + 1, by omega, by go_num, HN.out, hbel2⟩
        case measure => simp [intOf]; omega
    · obtain rfl : k = n := by omega
      go_wp2
      go_ret2
      exact ⟨.inr ⟨fun x hb => HA.out x hb.1 hb, rfl⟩, hb1.trans (hbel.mono hb1.size)⟩

/-- Package tally keeps its contracts. -/
theorem tallyC : TallyC where
  check := tcheck_any
  duelsE := duelsE_any
  duels := duels_any

  firstsE := firstsE_any
  firsts := firsts_any /- 29 -/

  pointsE := pointsE_any
  points := points_any /- 35 -/

  beaterE := beaterE_any
  beaterY := fun n a m c V w B x hB hr hm hv hx => (beater_any n a m c V w B hB hr hm hv).mono fun e w' ⟨h, hb⟩ => by
    rcases h with ⟨y, hy, rfl⟩ | ⟨hn, _⟩
    · rw [beats_one hy hx]; exact ⟨rfl, hb⟩
    · exact absurd hx (hn x)
  beaterN := fun n a m c V w B hB hr hm hv hx => (beater_any n a m c V w B hB hr hm hv).mono fun e w' ⟨h, hb⟩ => by
    rcases h with ⟨y, hy, rfl⟩ | ⟨hn, rfl⟩
    · exact absurd hy (hx y)
    · exact ⟨rfl, hb⟩
end Go.Proofs.Ytcjhgkmodfkmoaa

/-
  plumekeep.VotesOwn returns true, for all ints, every slice of ints and every slice of slices of ints; nothing that was there is written.
-/
import Derived.Test.YtbpenheomiejfaaCSpoil
import Derived.Test.YtbpenheomiejfaaCRWin
import Derived.Test.YtbpenheomiejfaaCDVotes
import Derived.Test.YtbpenheomiejfaaCTBeater
import Derived.Test.YtbpenheomiejfaaCTallies
import Derived.Test.YtbpenheomiejfaaCDTop
import Derived.Test.YtbpenheomiejfaaCDuels0
import Derived.Test.YtbpenheomiejfaaCWinners0
import Derived.Test.YtbpenheomiejfaaCOrders
import Derived.Test.YtbpenheomiejfaaCRaise
import Derived.Test.YtbpenheomiejfaaCFuncR
import Derived.Test.YtbpenheomiejfaaCWithin
namespace Go.Proofs.Ytbpenheomiejfaa
open Go.RowKit Fm
set_option linter.unusedVariables false

/-- A row of ints of the call's own, and an error's number. -/
def RowErr (w : World) (e : Ending) (w' : World) : Prop := ∃ v n xs, ∃ r : Int, e = .returned (.tuple #[v, .int .i64 r]) ∧ w'.ownsRow w.heap.size 3 1 v n xs ∧ Below w.heap.size w w'
/-- Rows of the call's own, that read as M, and the error's number r. -/
def MatErr (r : Int) (P : List (List Int) → Prop) (w : World) (e : Ending) (w' : World) : Prop :=
  ∃ v vs M, e = .returned (.tuple #[v, .int .i64 r]) ∧ P M ∧ w'.ownsRow w.heap.size 23 1 v M.length vs ∧ Elems w' w.heap.size 3 vs M ∧ Below w.heap.size w w'

theorem raise_all (p : List Int) (x : Int) (a : Option Addr) (n c : Nat) (w : World) (hp : Rd w w.heap.size a n p) :
    Calls Try.prog 21 #[.slice a n c, .int .i64 x] w (RowErr w) := by
  by_cases h0 : chk n p = 0
  · by_cases hx : x ∈ p
    · obtain ⟨k, hk, hkx⟩ := List.getElem_of_mem hx
      have hkx' : p.getD k 0 = x := by rw [getD_get hk]; exact hkx
      have hkn : k < n := by have := hp.1; omega
      cases k with
      | zero => exact (raise_first p x a n c w w.heap.size (Nat.le_refl _) hp h0 hkn hkx').mono fun e w' ⟨h1, h2⟩ => ⟨_, 0, [], 6, h1, World.ownsRow_nil _ _ _ _, h2⟩
      | succ k => exact (raise_hit p x a n c w w.heap.size (Nat.le_refl _) hp k h0 hkn hkx').mono fun e w' ⟨g, cap, h1, _, h2, h3⟩ => ⟨_, n, _, 0, h1, h2, h3⟩
    · exact (raise_none p x a n c w w.heap.size (Nat.le_refl _) hp h0 hx).mono fun e w' ⟨h1, h2⟩ => ⟨_, 0, [], 4, h1, World.ownsRow_nil _ _ _ _, h2⟩
  · exact (raise_bad p x a n c w w.heap.size (Nat.le_refl _) hp _ rfl h0).mono fun e w' ⟨h1, h2⟩ => ⟨_, 0, [], _, h1, World.ownsRow_nil _ _ _ _, h2⟩
theorem vchk_nat {n0 : Int} {L : List (List Int)} (h : vchk n0 L = 0) : ∃ n : Nat, n0 = n := ⟨n0.toNat, by have := (vchk_zero h).1; omega⟩
theorem firsts_all (n0 : Int) (a : Option Addr) (m c : Nat) (L : List (List Int)) (w : World) (hr : RdR w w.heap.size a m L) (hm : m ≤ 17592186044416) :
    Calls Try.prog 19 #[.int .i64 n0, .slice a m c] w (RowErr w) := by
  by_cases h0 : vchk n0 L = 0
  · obtain ⟨n, rfl⟩ := vchk_nat h0
    exact (firsts_own n a m c L w w.heap.size (Nat.le_refl _) hr hm h0).mono fun e w' ⟨v, h1, h2, h3⟩ => ⟨v, _, _, 0, h1, h2, h3⟩
  · exact (firstsE_nil n0 a m c L w w.heap.size (Nat.le_refl _) hr hm h0).mono fun e w' ⟨h1, h2⟩ => ⟨_, 0, [], _, h1, World.ownsRow_nil _ _ _ _, h2⟩
theorem winners_all (rule n0 : Int) (a : Option Addr) (m c : Nat) (L : List (List Int)) (w : World) (ti : TabIn w a m L) :
    Calls Try.prog 11 #[.int .i64 rule, .int .i64 n0, .slice a m c] w (RowErr w) := by
  by_cases h0 : rchk rule n0 L = 0
  · have hv : vchk n0 L = 0 := by
      unfold rchk at h0
      by_cases h : rule < 1 ∨ 5 < rule
      · rw [if_pos h] at h0; cases h0
      · rwa [if_neg h] at h0
    obtain ⟨n, rfl⟩ := vchk_nat hv
    exact (rwin_own rule n a m c L w ti h0).mono fun e w' ⟨v, h1, h2, h3⟩ => ⟨v, _, _, 0, h1, h2, h3⟩
  · exact (rwinE_nil rule n0 a m c L w ti h0).mono fun e w' ⟨h1, h2⟩ => ⟨_, 0, [], _, h1, World.ownsRow_nil _ _ _ _, h2⟩
theorem duels_all (n0 : Int) (a : Option Addr) (m c : Nat) (L : List (List Int)) (w : World) (hr : RdR w w.heap.size a m L) (hm : m ≤ 17592186044416) :
    Calls Try.prog 38 #[.int .i64 n0, .slice a m c] w (MatErr (vchk n0 L) (fun M => M.length ≤ 6 ∧ ∀ l ∈ M, l.length ≤ 6 ∧ (-7 : Int) ∉ l) w) := by
  by_cases h0 : vchk n0 L = 0
  · obtain ⟨n, rfl⟩ := vchk_nat h0
    have h6 := (vchk_zero h0).1.2
    refine (duels_own n a m c L w w.heap.size (Nat.le_refl _) hr hm h0).mono fun e w' ⟨v, h1, ⟨vs, h2, h3, _⟩, h4⟩ => ⟨v, vs, duelsM n L, by rw [h0]; exact h1, ⟨by rw [duelsM_len]; omega, fun l hl => ⟨by rw [duelsM_rows hl]; omega, fun hm7 => ?_⟩⟩, h2, h3, h4⟩
    unfold duelsM at hl
    rw [List.mem_map] at hl
    obtain ⟨x, _, rfl⟩ := hl
    unfold duelRow at hm7
    rw [List.mem_map] at hm7
    obtain ⟨y, _, hy⟩ := hm7
    omega
  · exact (duelsE_nil n0 a m c L w w.heap.size (Nat.le_refl _) hr hm h0).mono fun e w' ⟨h1, h2⟩ => ⟨_, [], [], h1, ⟨by simp, fun l hl => by cases hl⟩, World.ownsRow_nil _ _ _ _, Elems.nil_, h2⟩
theorem votes_all (n0 : Int) (a : Option Addr) (m c : Nat) (L : List (List Int)) (w : World) (ti : TabIn w a m L) :
    Calls Try.prog 39 #[.int .i64 n0, .slice a m c] w (MatErr (bchk n0 L) (fun M => M.length ≤ 30) w) := by
  have hm := ti
  obtain ⟨_, _, hr0, _⟩ := hm
  refine (dvotes_all n0 a m c L w ti).mono fun e w' ⟨a1, l1, c1, r, he, hr, hbl, h0, h1⟩ => ?_
  by_cases hz : r = 0
  · obtain ⟨hl, _, _, _, vs, o, el⟩ := h0 hz
    subst hl
    refine ⟨_, vs, _, by rw [hr]; exact he, ?_, o, el, hbl⟩
    show (mcg n0.toNat L).length ≤ 30
    rw [mcg_len]
    rw [hz] at hr
    unfold bchk at hr
    split at hr
    · cases hr
    · split at hr
      · cases hr
      · omega
  · obtain ⟨rfl, rfl, rfl⟩ := h1 hz
    exact ⟨_, [], [], by rw [hr]; exact he, by simp, World.ownsRow_nil _ _ _ _, Elems.nil_, hbl⟩
set_option maxHeartbeats 400000 in
set_option maxRecDepth 100000 in
theorem votesOwn1_any (l : List Int) (a : Option Addr) (c : Nat) (w : World) (hr : Rd w w.heap.size a l.length l) (hm : l.length ≤ 1000000) :
    Calls Try.prog 42 #[.slice a l.length c] w fun e w' => e = .returned (.bool (decide ((-7 : Int) ∈ l))) ∧ Below w.heap.size w w' := by
  have HR := Lib.hid (contains_any l (-7) a l.length c w w.heap.size hr (by omega))
  clear hr
  generalize decide ((-7 : Int) ∈ l) = r at *
  go_enter Try.func42, Try.ntmps42
  go_wp2_with fail
  refine HR.out.mono ?_
  rintro e w' ⟨rfl, rfl⟩
  clear HR
  go_wp2
  go_ret
  exact ⟨rfl, Below.refl _ w⟩

set_option maxHeartbeats 4000000 in
set_option maxRecDepth 100000 in
theorem votesOwn_is (n0 : Int) (hn0 : -9223372036854775808 ≤ n0) (hn1 : n0 ≤ 9223372036854775807) (vp : Value) (P : List Int) {w : World} (fp : IsInts w vp P) (vv : Value) (L : List (List Int)) (fv : IsRows w vv L) (x0 : Int) (hx0 : -9223372036854775808 ≤ x0) (hx1 : x0 ≤ 9223372036854775807) :
    Calls Try.prog 10 #[.int .i64 n0, vp, vv, .int .i64 x0] w fun e w' => e = .returned (.bool true) ∧ Below w.heap.size w w' := by
  obtain ⟨ap, cp, rfl, hrp, _, _, _, _, hp8⟩ := fp
  obtain ⟨a, c, rfl, hr, hall, _, _, _, h24⟩ := fv
  have HR := Lib.hid hr
  have HRP := Lib.hid hrp
  have HL8 : Hid (∀ l ∈ L, l.length * 8 ≤ 140737488355328) := fun l hl => (hall l hl).2
  have hL24 : L.length ≤ 17592186044416 := by omega
  have hP17 : P.length ≤ 17592186044416 := by omega
  clear hr hrp hall
  go_enter Try.func10, Try.ntmps10
  go_wp2_with fail
  refine (orders_any w).mono ?_
  rintro e w1 ⟨rfl, hb1⟩
  go_wp2_with fail
  refine (tallies_any tallyC w1).mono ?_
  rintro e w2 ⟨rfl, hb2⟩
  have hb02 := ext_trans hb1 hb2
  clear hb1 hb2
  go_wp2_with fail
  refine (duels0_any dWins dTop w2).mono ?_
  rintro e w3 ⟨rfl, hb3⟩
  have hb03 := ext_trans hb02 hb3
  clear hb02 hb3
  go_wp2_with fail
  refine (winners0_any rWin rSole w3).mono ?_
  rintro e w4 ⟨rfl, hb4⟩
  have hb04 := ext_trans hb03 hb4
  clear hb03 hb4
  go_wp2_with fail
  refine (clone_any P ap P.length cp w4 w4.heap.size (rd_ext HRP.out hb04) hp8).mono ?_
  rintro e w5 ⟨v5, rfl, o5, hb5⟩
  obtain ⟨a5, c5, rfl, _, _⟩ := own_slice o5
  have r5 := Rd.of_own o5
  have hb05 := ext_trans hb04 hb5
  clear hb04 hb5 o5
  go_wp2_with fail
  refine (copied_any a L.length c L w5 (rdr_ext HR.out hb05) h24 HL8.out).mono ?_
  rintro e w6 ⟨v6, vs6, rfl, o6, el6, hb6⟩
  obtain ⟨a6, c6, rfl⟩ : ∃ a6 c6, v6 = .slice a6 L.length c6 := by
    rcases o6.2 with ⟨h, hn⟩ | ⟨g, cap, cur, h, _⟩
    · exact ⟨none, 0, by rw [h, hn]⟩
    · exact ⟨_, cap, h⟩
  have R6 := Lib.hid (RdR.of_own o6 rfl el6)
  have R5 := Lib.hid (rd_ext r5 hb6)
  have HB6 := Lib.hid (ext_trans hb05 hb6)
  have RP6 := Lib.hid (rd_ext HRP.out HB6.out)
  have RV6 := Lib.hid (rdr_ext HR.out HB6.out)
  clear r5 hb05 o6 el6 hb6 HR HRP
  have TI : Hid (∀ W, Below w6.heap.size w6 W → TabIn W a L.length L) := fun W hW => ⟨W.heap.size, Nat.le_refl _, rdr_ext RV6.out hW, by omega, fun l hl => by have := HL8.out l hl; omega⟩
  have QR := Lib.hid (raise_all P x0 ap P.length cp w6 RP6.out)
  have HD : Hid (∀ W, Below w6.heap.size w6 W → Calls Try.prog 38 #[.int .i64 n0, .slice a L.length c] W (MatErr (vchk n0 L) (fun M => M.length ≤ 6 ∧ ∀ l ∈ M, l.length ≤ 6 ∧ (-7 : Int) ∉ l) W)) := fun W hW => duels_all n0 a L.length c L W (rdr_ext RV6.out hW) hL24
  have HF : Hid (∀ W, Below w6.heap.size w6 W → Calls Try.prog 19 #[.int .i64 n0, .slice a L.length c] W (RowErr W)) := fun W hW => firsts_all n0 a L.length c L W (rdr_ext RV6.out hW) hL24
  have HW : Hid (∀ rule W, Below w6.heap.size w6 W → Calls Try.prog 11 #[.int .i64 rule, .int .i64 n0, .slice a L.length c] W (RowErr W)) := fun rule W hW => winners_all rule n0 a L.length c L W (TI.out W hW)
  have HV : Hid (∀ W, Below w6.heap.size w6 W → Calls Try.prog 39 #[.int .i64 n0, .slice a L.length c] W (MatErr (bchk n0 L) (fun M => M.length ≤ 30) W)) := fun W hW => votes_all n0 a L.length c L W (TI.out W hW)
  clear TI
  generalize vchk n0 L = vr at *
  generalize bchk n0 L = br at *
  go_wp2_with fail
  refine QR.out.mono ?_
  rintro e w7 ⟨v7, n7, xs7, r7, rfl, o7, hb7⟩
  clear QR
  go_wp2_with fail
  refine (spoil_any w6.heap.size v7 n7 xs7 (-7) w7 o7).mono ?_
  rintro e w8 ⟨⟨u8, rfl⟩, _, g8⟩
  have hb68 := hb7.grown g8 hb7.size (own_not o7)
  clear o7 g8 hb7
  go_wp2_with fail
  refine (HD.out w8 hb68).mono ?_
  rintro e w9 ⟨v9, vs9, M9, rfl, ⟨hM6, _⟩, o9, el9, hb9⟩
  obtain ⟨a9, c9, rfl⟩ : ∃ a9 c9, v9 = .slice a9 M9.length c9 := by
    rcases o9.2 with ⟨h, hn⟩ | ⟨g, cap, cur, h, _⟩
    · exact ⟨none, 0, by rw [h, hn]⟩
    · exact ⟨_, cap, h⟩
  have sp9 := Spo.of_elems el9
  have HVL : Hid (vs9.length = M9.length) := el9.1
  have HO9 := Lib.hid o9
  have HB9 := Lib.hid hb9
  have HSP9 := Lib.hid sp9
  have HB68 := Lib.hid hb68
  clear o9 el9 hb9 sp9 hb68
  go_wp2_with fail
  go_loopw [61] (fun iv wr => ∃ k : Nat, k ≤ M9.length ∧ iv = .int .i64 k ∧ wr.ownsRow w8.heap.size 23 1 (.slice a9 M9.length c9) M9.length vs9 ∧ Spo wr w8.heap.size vs9 ∧ Below w8.heap.size w8 wr) (fun iv _ => M9.length - (intOf iv).toNat)
  case atStart => exact ⟨0, Nat.zero_le _, rfl, HO9.out, HSP9.out, HB9.out⟩
  case round =>
    clear HO9 HSP9 HB9
    obtain ⟨k, hk, rfl, o9, sp9, hb9⟩ := hrel
    by_cases hkM : k < M9.length
    · have hkv : k < vs9.length := by rw [HVL.out]; exact hkM
      obtain ⟨g9, cap9, hs9, _, _⟩ := o9.form (by omega)
      injection hs9 with hs9 _ hs9c
      subst hs9; subst hs9c
      have hck : wr.cell? ⟨g9, k, none⟩ = some vs9[k] := by rw [o9.cellAt k (by omega)]; exact List.getElem?_eq_getElem hkv
      obtain ⟨nu, xu, ou⟩ := sp9 _ (List.getElem_mem hkv)
      obtain ⟨ua, uc, hu⟩ : ∃ ua uc, vs9[k] = .slice ua nu uc := by
        rcases ou.2 with ⟨h, hn⟩ | ⟨g, cap, cur, h, _⟩
        · exact ⟨none, 0, by rw [h, hn]⟩
        · exact ⟨_, cap, h⟩
      rw [hu] at hck ou
      have HSP := Lib.hid sp9
      have HO := Lib.hid o9
      have HB := Lib.hid hb9
      have HOU := Lib.hid ou
      clear hu ou sp9 o9 hb9 hkv
      go_wp2_with fail
      refine (spoil_any w8.heap.size (.slice ua nu uc) nu xu (-7) wr HOU.out).mono ?_
      rintro e w10 ⟨⟨u10, rfl⟩, hx10, g10⟩
      have o10 := HO.out.kept g10 (own_far HOU.out HO.out (by decide))
      have sp10 := HSP.out.spoiled HOU.out hx10 g10
      have hb10 := HB.out.grown g10 HB.out.size (own_not HOU.out)
      clear HSP HO HB HOU hx10 g10 hck
      go_wp2
      go_roundw
      case rel => exact ⟨k + 1, by omega, by go_num, o10, sp10, hb10⟩
      case measure => simp [intOf]; omega
    · obtain rfl : k = M9.length := by omega
      have hb6r := ext_trans HB68.out hb9
      clear o9 sp9 hb9
      obtain ⟨wA, rfl⟩ : ∃ wA, wA = wr := ⟨_, rfl⟩
      go_wp2_with fail
      refine (HF.out wA hb6r).mono ?_
      rintro e w11 ⟨v11, n11, xs11, r11, rfl, o11, hb11⟩
      go_wp2_with fail
      refine (spoil_any wA.heap.size v11 n11 xs11 (-7) w11 o11).mono ?_
      rintro e w12 ⟨⟨u12, rfl⟩, _, g12⟩
      have hb612 := ext_trans hb6r (hb11.grown g12 hb11.size (own_not o11))
      clear o11 g12 hb11 hb6r
      go_wp2_with fail
      refine (within_any x0 5 w12 hx0 hx1 (by omega) (by omega)).mono ?_
      rintro e w12' ⟨rfl, rfl⟩
      obtain ⟨rule, hrule⟩ : ∃ rule : Int, 1 + x0 % 5 = rule := ⟨_, rfl⟩
      have er1 : 1 ≤ rule := by omega
      have er2 : rule ≤ 5 := by omega
      have e5 : x0 % 5 = rule - 1 := by omega
      rw [e5]
      have er : 1 + (rule - 1) = rule := by omega
      clear hrule e5
      go_wp2_with fail
      refine (HW.out rule w12 hb612).mono ?_
      rintro e w13 ⟨v13, n13, xs13, r13, rfl, o13, hb13⟩
      go_wp2_with fail
      refine (spoil_any w12.heap.size v13 n13 xs13 (-7) w13 o13).mono ?_
      rintro e w14 ⟨⟨u14, rfl⟩, _, g14⟩
      have hb614 := ext_trans hb612 (hb13.grown g14 hb13.size (own_not o13))
      clear o13 g14 hb13 hb612
      go_wp2_with fail
      refine (HV.out w14 hb614).mono ?_
      rintro e w15 ⟨v15, vs15, M15, rfl, hM30, o15, el15, hb15⟩
      obtain ⟨a15, c15, rfl⟩ : ∃ a15 c15, v15 = .slice a15 M15.length c15 := by
        rcases o15.2 with ⟨h, hn⟩ | ⟨g, cap, cur, h, _⟩
        · exact ⟨none, 0, by rw [h, hn]⟩
        · exact ⟨_, cap, h⟩
      have hM30' : M15.length ≤ 30 := hM30
      have HVL15 : Hid (vs15.length = M15.length) := el15.1
      have HO15 := Lib.hid o15
      have HB15 := Lib.hid hb15
      have HSP15 := Lib.hid (Spo.of_elems el15)
      have HB614 := Lib.hid hb614
      clear o15 el15 hb15 hb614 hM30
      go_wp2_with fail
      go_loopw [95] (fun iv wr => ∃ k : Nat, k ≤ M15.length ∧ iv = .int .i64 k ∧ wr.ownsRow w14.heap.size 23 1 (.slice a15 M15.length c15) M15.length vs15 ∧ Spo wr w14.heap.size vs15 ∧ Below w14.heap.size w14 wr) (fun iv _ => M15.length - (intOf iv).toNat)
      case atStart => exact ⟨0, Nat.zero_le _, rfl, HO15.out, HSP15.out, HB15.out⟩
      case round =>
        clear HO15 HSP15 HB15
        obtain ⟨k, hk, rfl, o9, sp9, hb9⟩ := hrel
        by_cases hkM : k < M15.length
        · have hkv : k < vs15.length := by rw [HVL15.out]; exact hkM
          obtain ⟨g9, cap9, hs9, _, _⟩ := o9.form (by omega)
          injection hs9 with hs9 _ hs9c
          subst hs9; subst hs9c
          have hck : wr.cell? ⟨g9, k, none⟩ = some vs15[k] := by rw [o9.cellAt k (by omega)]; exact List.getElem?_eq_getElem hkv
          obtain ⟨nu, xu, ou⟩ := sp9 _ (List.getElem_mem hkv)
          obtain ⟨ua, uc, hu⟩ : ∃ ua uc, vs15[k] = .slice ua nu uc := by
            rcases ou.2 with ⟨h, hn⟩ | ⟨g, cap, cur, h, _⟩
            · exact ⟨none, 0, by rw [h, hn]⟩
            · exact ⟨_, cap, h⟩
          rw [hu] at hck ou
          have HSP := Lib.hid sp9
          have HO := Lib.hid o9
          have HB := Lib.hid hb9
          have HOU := Lib.hid ou
          clear hu ou sp9 o9 hb9 hkv
          go_wp2_with fail
          refine (spoil_any w14.heap.size (.slice ua nu uc) nu xu (-7) wr HOU.out).mono ?_
          rintro e w10 ⟨⟨u10, rfl⟩, hx10, g10⟩
          have o10 := HO.out.kept g10 (own_far HOU.out HO.out (by decide))
          have sp10 := HSP.out.spoiled HOU.out hx10 g10
          have hb10 := HB.out.grown g10 HB.out.size (own_not HOU.out)
          clear HSP HO HB HOU hx10 g10 hck
          go_wp2
          go_roundw
          case rel => exact ⟨k + 1, by omega, by go_num, o10, sp10, hb10⟩
          case measure => simp [intOf]; omega
        · obtain rfl : k = M15.length := by omega
          have hb6r := ext_trans HB614.out hb9
          clear o9 sp9 hb9
          obtain ⟨wB, rfl⟩ : ∃ wB, wB = wr := ⟨_, rfl⟩
          go_wp2_with fail
          refine (HD.out wB hb6r).mono ?_
          rintro e w16 ⟨v16, vs16, M16, rfl, ⟨hM6', hM7⟩, o16, el16, hb16⟩
          obtain ⟨a16, c16, rfl⟩ : ∃ a16 c16, v16 = .slice a16 M16.length c16 := by
            rcases o16.2 with ⟨h, hn⟩ | ⟨g, cap, cur, h, _⟩
            · exact ⟨none, 0, by rw [h, hn]⟩
            · exact ⟨_, cap, h⟩
          have R16 := Lib.hid (RdR.of_own o16 rfl el16)
          have hb616 := ext_trans hb6r hb16
          have HM7 := Lib.hid hM7
          clear o16 el16 hb16 hb6r hM7
          have QE := Lib.hid (equal_ext P P ap a5 P.length cp P.length c5 w16 (rd_ext RP6.out hb616) (rd_ext R5.out hb616) (by omega) (by omega))
          rw [show decide (P = P) = true by simp] at QE
          go_wp2_with fail
          refine QE.out.mono ?_
          rintro e w17 ⟨rfl, hb17⟩
          have hb617 := ext_trans hb616 hb17
          have R17 := Lib.hid (rdr_ext R16.out hb17)
          clear QE R16 hb616 hb17
          go_wp2_with fail
          refine (sameRows_any L a a6 L.length c c6 w17 hL24 (fun l hl => by have := HL8.out l hl; omega) (rdr_ext RV6.out hb617) (rdr_ext R6.out hb617)).mono ?_
          rintro e w18 ⟨rfl, hb18⟩
          have hb618 := ext_trans hb617 hb18
          have R18 := Lib.hid (rdr_ext R17.out hb18)
          have hbe := ext_trans HB6.out hb618
          clear R17 hb617 hb18 hb618
          have hvr : (vr == vr) = true := by simp
          have hT : TellsR 42 #[] M16 (fun l => decide ((-7 : Int) ∈ l)) w18 w18.heap.size := fun l hl a' c' W hW hrd => votesOwn1_any l a' c' W (hrd.more hW.size) (by have := (HM7.out l hl).1; omega)
          have QC := Lib.hid (containsFuncR_any 42 (fun _ _ => rfl) #[] (fun l => decide ((-7 : Int) ∈ l)) a16 M16.length c16 M16 w18 w18.heap.size (Nat.le_refl _) R18.out (by omega) hT)
          have hany : M16.any (fun l => decide ((-7 : Int) ∈ l)) = false := by
            rw [List.any_eq_false]
            intro l hl
            simp [(HM7.out l hl).2]
          rw [hany] at QC
          clear hT hany R18
          go_wp2_with fail
          refine QC.out.mono ?_
          rintro e w19 ⟨rfl, hb19⟩
          have hbf := ext_trans hbe hb19
          clear QC hbe hb19
          go_wp2
          go_ret
          exact ⟨rfl, hbf⟩
end Go.Proofs.Ytbpenheomiejfaa

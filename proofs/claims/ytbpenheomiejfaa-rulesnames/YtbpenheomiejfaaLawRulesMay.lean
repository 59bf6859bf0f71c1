/-
  plumekeep.RulesMay returns true, for every int and every slice of slices of ints, if package rules and tally.Firsts keep their contracts; nothing that was there is written.
-/
import Derived.Test.YtbpenheomiejfaaCWinners0
import Derived.Test.YtbpenheomiejfaaCVotesOf
import Derived.Test.YtbpenheomiejfaaCWithin
import Derived.Test.YtbpenheomiejfaaPureB
import Derived.BigQuiet
import Derived.Deep.QuietTactic
namespace Go.Proofs.Ytbpenheomiejfaa
open Go.RowKit Fm
set_option linter.unusedVariables false

/-- The contract of tally.Firsts at votes. -/
def TFirsts : Prop := ∀ (n : Nat) (a : Option Addr) (m c : Nat) (V : List (List Int)) (w : World) (B : Nat), B ≤ w.heap.size → RdR w B a m V → m ≤ 17592186044416 → vchk n V = 0 →
    Calls Try.prog 19 #[.int .i64 n, .slice a m c] w (IntsOut (firstsL n V) w)

theorem rchk_of {rule : Int} {n : Int} {V : List (List Int)} (h1 : 1 ≤ rule) (h5 : rule ≤ 5) (hv : vchk n V = 0) : rchk rule n V = 0 := by unfold rchk; rw [if_neg (by omega), hv]
theorem perm_len {n : Nat} {V : List (List Int)} (hp : ∀ p ∈ V, p.Perm (sides n)) (h6 : n ≤ 6) : ∀ p ∈ V, p.length ≤ 1000 := fun p hpm => by
  have := (hp p hpm).length_eq
  rw [sides_len] at this
  omega

set_option maxHeartbeats 4000000 in
set_option maxRecDepth 100000 in
theorem rulesMay_is (dW : RWin) (sS : RSole) (tF : TFirsts) (r0 : Int) (hr0 : -9223372036854775808 ≤ r0) (hr1 : r0 ≤ 9223372036854775807) (v : Value) (L : List (List Int)) {w : World} (f : IsRows w v L) :
    Calls Try.prog 4 #[.int .i64 r0, v] w fun e w' => e = .returned (.bool true) ∧ Below w.heap.size w w' := by
  obtain ⟨a, c, rfl, hr, hall, hlc, _, hcm, h24⟩ := f
  have HR := Lib.hid hr
  have HO : Hid (∀ l ∈ L, ∀ x ∈ l, Ok64 x) := fun l hl => (hall l hl).1
  have W0 : Hid (∀ W, Calls Try.prog 16 #[] W fun e w' => e = .returned (.bool true) ∧ Below W.heap.size W w') := fun W => winners0_any dW sS W
  have DW : Hid RWin := dW
  have TF : Hid TFirsts := tF
  clear hr hall dW sS tF h24
  go_enter Try.func4, Try.ntmps4
  go_wp2_with fail
  refine (W0.out w).mono ?_
  rintro e w1 ⟨rfl, hb1⟩
  clear W0
  go_wp2_with fail
  refine (within_any r0 5 w1 hr0 hr1 (by omega) (by omega)).mono ?_
  rintro e w1' ⟨rfl, rfl⟩
  obtain ⟨rule, hrule⟩ : ∃ rule : Int, 1 + r0 % 5 = rule := ⟨_, rfl⟩
  have h1 : 1 ≤ rule := by omega
  have h5 : rule ≤ 5 := by omega
  have e5 : r0 % 5 = rule - 1 := by omega
  rw [e5]
  have er : 1 + (rule - 1) = rule := by omega
  clear hrule e5 hr0 hr1
  go_wp2_with fail
  refine (votesOf_any 2 a L.length c L w1 (rdr_ext HR.out hb1) hlc hcm (by omega) (by omega) HO.out).mono ?_
  rintro e w2 h
  obtain ⟨va, vc, rfl, _, _, hrV, hb2⟩ := h.use
  clear h
  have hb02 := ext_trans hb1 hb2
  have HV30 := votesOf_len 2 L
  have HP := Lib.hid (fun p (hp : p ∈ votesOf 2 L) => votesOf_mem hp)
  have HOK := Lib.hid (votesOf_v0 (n := 2) (by omega) (by omega) L)
  have RV := Lib.hid hrV
  have HSH : Hid (votesOf 2 L = votesOf 2 L) := rfl
  clear HSH
  generalize votesOf 2 L = V at *
  have hV30 : V.length ≤ 30 := by omega
  have HMW := Lib.hid (may_win HP.out h1 h5)
  have hwp := winL_pos rule (n := 2) (by omega) V
  have hwl := winL_le rule (n := 2) (by omega) V
  have HRC : Hid (rchk rule (2 : Nat) V = 0) := rchk_of h1 h5 HOK.out
  have TI := Lib.hid (tabIn_smallW RV.out (by omega) (perm_len HP.out (by omega)))
  clear HV30 hrV hb1 hb2 HR HO hlc hcm
  have QW := Lib.hid (DW.out rule 2 va V.length vc V w2 TI.out HRC.out)
  generalize winL rule 2 V = WL at *
  go_wp2_with fail
  refine QW.out.mono ?_
  rintro e w3 ⟨a3, c3, rfl, _, _, r3, hb3⟩
  clear QW
  have hb03 := ext_trans hb02 hb3
  go_wp2_with fail
  refine (TF.out 2 va V.length vc V w3 w3.heap.size (Nat.le_refl _) (rdr_ext RV.out hb3) (by omega) HOK.out).mono ?_
  rintro e w4 ⟨a4, c4, rfl, _, _, r4, hb4⟩
  have ef : firstsL 2 V = [(fst1 V 0 : Int), fst1 V 1] := rfl
  rw [ef] at r4 ⊢
  have R3 := Lib.hid (rd_ext r3 hb4)
  have hb04 := ext_trans hb03 hb4
  obtain ⟨b4, o4, rfl, hbb4, hc4⟩ := r4.2 (by simp)
  have c0 := hc4 0 (by simp)
  have c1 := hc4 1 (by simp)
  have c0' : w4.cell? ⟨b4, o4, none⟩ = some (.int .i64 (fst1 V 0)) := c0
  have c1' : w4.cell? ⟨b4, o4 + 1, none⟩ = some (.int .i64 (fst1 V 1)) := c1
  have hfl : ([(fst1 V 0 : Int), fst1 V 1] : List Int).length = 2 := rfl
  rw [hfl]
  clear r3 r4 ef hc4 c0 c1 hb3 hb4 hb02 hb03 hfl RV TI HP HOK
  generalize fst1 V 0 = A at *
  generalize fst1 V 1 = Bn at *
  go_wp2_with fail
  refine (good_zero w4.heap.size 0 2 2 _ (by omega) (zeros_at w4 24 2 #[.int .i64 0, .int .i64 0] rfl)).mono ?_
  rintro e w' ⟨rfl, rfl⟩
  have b5 : Below w4.heap.size w4 (w4.alloc (.cells #[.int .i64 0, .int .i64 0] 24)) := (Below.refl _ _).alloc (by omega) _
  have R5 := Lib.hid (rd_ext R3.out b5)
  have hb05 := ext_trans hb04 b5
  have d0 := (b5.cell (show (⟨b4, o4, none⟩ : Addr).block < _ from hbb4)).trans c0'
  have d1 := (b5.cell (show (⟨b4, o4 + 1, none⟩ : Addr).block < _ from hbb4)).trans c1'
  clear b5 R3 hb04 c0' c1' hbb4
  generalize w4.alloc (.cells #[.int .i64 0, .int .i64 0] 24) = w5 at *
  have FIN : Hid (∀ (l : List Int) (cs : Array Value) (W : World), cs = (I l).toArray → WL = l → l.length ≤ 2 → Below w5.heap.size w5 W → Calls Try.prog 15 #[.slice a3 WL.length c3, .slice (some ⟨W.heap.size, 0, none⟩) l.length l.length] (W.alloc (.cells cs 3)) fun e w' => e = .returned (.bool true) ∧ Below w.heap.size w w') := fun l cs W hcs hl hl2 hW => by
    have bW : Below W.heap.size W (W.alloc (.cells cs 3)) := (Below.refl _ _).alloc (Nat.le_refl _) _
    refine (equal_ext WL l a3 (some ⟨W.heap.size, 0, none⟩) WL.length c3 l.length l.length _ (rd_ext (rd_ext R5.out hW) bW) ((Rd.lit W 3 l cs hcs).more (by simp)) (by omega) (by omega)).mono ?_
    rintro e w' ⟨rfl, hb⟩
    exact ⟨by simp [hl], ext_trans (ext_trans (ext_trans hb05 hW) bW) hb⟩
  by_cases g1 : (Bn : Int) < A
  · rw [if_pos g1] at HMW
    go_wp2_with fail
    go_quiet (fail)
    have hq := below_drewN (Below.refl w5.heap.size w5) nq
    clear d0 d1
    generalize w5.drewN nq = w6 at *
    go_wp2_with fail
    refine (FIN.out [0] #[.int .i64 0] w6 rfl HMW.out (by simp) hq).mono ?_
    rintro e w7 ⟨rfl, hb7⟩
    clear hq FIN
    go_wp2
    go_ret
    exact ⟨rfl, hb7⟩
  · rw [if_neg g1] at HMW
    have d2 : decide ((Bn : Int) < A) = false := by simpa using g1
    have hd0 : ∀ k, (w5.drewN k).cell? ⟨b4, o4, none⟩ = some (.int .i64 A) := fun k => d0
    have hd1 : ∀ k, (w5.drewN k).cell? ⟨b4, o4 + 1, none⟩ = some (.int .i64 Bn) := fun k => d1
    by_cases g2 : (A : Int) < Bn
    · rw [if_pos g2] at HMW
      go_wp2_with fail
      go_quiet (fail)
      have e0 := hd0 nq
      have e1 := hd1 nq
      have hq := below_drewN (Below.refl w5.heap.size w5) nq
      clear d0 d1 hd0 hd1
      generalize w5.drewN nq = w6 at *
      go_wp2_with fail
      go_quiet (fail)
      have hq2 := ext_drewN hq nq
      clear e0 e1 hq
      generalize w6.drewN nq = w7 at *
      go_wp2_with fail
      refine (FIN.out [1] #[.int .i64 1] w7 rfl HMW.out (by simp) hq2).mono ?_
      rintro e w8 ⟨rfl, hb8⟩
      clear hq2 FIN
      go_wp2
      go_ret
      exact ⟨rfl, hb8⟩
    · rw [if_neg g2] at HMW
      have d3 : decide ((A : Int) < Bn) = false := by simpa using g2
      go_wp2_with fail
      go_quiet (fail)
      have e0 := hd0 nq
      have e1 := hd1 nq
      have hq := below_drewN (Below.refl w5.heap.size w5) nq
      clear d0 d1 hd0 hd1
      generalize w5.drewN nq = w6 at *
      go_wp2_with fail
      go_quiet (fail)
      have hq2 := ext_drewN hq nq
      clear e0 e1 hq
      generalize w6.drewN nq = w7 at *
      by_cases g3 : rule = 5
      · subst g3
        rw [if_pos rfl] at HMW
        go_wp2_with fail
        refine (FIN.out [0] #[.int .i64 0] w7 rfl HMW.out (by simp) hq2).mono ?_
        rintro e w8 ⟨rfl, hb8⟩
        clear hq2 FIN
        go_wp2
        go_ret
        exact ⟨rfl, hb8⟩
      · rw [if_neg g3] at HMW
        have g3b : (rule == 5) = false := by simpa using g3
        clear g3
        go_wp2_with fail
        refine (FIN.out [0, 1] #[.int .i64 0, .int .i64 1] w7 rfl HMW.out (by simp) hq2).mono ?_
        rintro e w8 ⟨rfl, hb8⟩
        clear hq2 FIN
        go_wp2
        go_ret
        exact ⟨rfl, hb8⟩
end Go.Proofs.Ytbpenheomiejfaa

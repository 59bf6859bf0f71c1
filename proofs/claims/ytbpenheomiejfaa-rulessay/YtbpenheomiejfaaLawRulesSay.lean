/-
  plumelaw.RulesSay returns true, for all ints and every slice of slices of ints, if package rules keeps its contracts; nothing that was there is written.
-/
import Derived.Test.YtbpenheomiejfaaRuleP
import Derived.Test.YtbpenheomiejfaaCVoteErr
import Derived.Test.YtbpenheomiejfaaCWinnersOf
import Derived.Test.YtbpenheomiejfaaCEqual
namespace Go.Proofs.Ytbpenheomiejfaa
open Go.RowKit Fm
set_option linter.unusedVariables false

theorem voteperm {n : Nat} {V : List (List Int)} (h : vchk n V = 0) : ∀ p ∈ V, p.Perm (sides n) := fun p hp => by
  obtain ⟨h1, h2, h3⟩ := chk_zero ((vchk_zero h).2.2 p hp)
  exact isOrd_perm (by omega) h3

set_option maxHeartbeats 4000000 in
set_option maxRecDepth 100000 in
theorem rulesSay_is (dE : RWinE) (dW : RWin) (sE : RSoleE) (sS : RSole) (rule : Int) (hr0 : -9223372036854775808 ≤ rule) (hr1 : rule ≤ 9223372036854775807) (n0 : Int) (hn0 : -9223372036854775808 ≤ n0) (hn1 : n0 ≤ 9223372036854775807) (v : Value) (V : List (List Int)) {w : World} (f : IsRows w v V) :
    Calls Try.prog 3 #[.int .i64 rule, .int .i64 n0, v] w fun e w' => e = .returned (.bool true) ∧ Below w.heap.size w w' := by
  obtain ⟨a, c, rfl, hr, hall, hlc, _, hcm, h24⟩ := f
  have TI : Hid (TabIn w a V.length V) := ⟨w.heap.size, Nat.le_refl _, hr, by omega, fun l hl => by have := (hall l hl).2; omega⟩
  have HR := Lib.hid hr
  have H8 : Hid (∀ l ∈ V, l.length * 8 ≤ 140737488355328) := fun l hl => (hall l hl).2
  have DE : Hid RWinE := dE
  have DW : Hid RWin := dW
  have SE : Hid RSoleE := sE
  have SS : Hid RSole := sS
  clear hr hall dE dW sE sS
  by_cases hrc : rchk rule n0 V = 0
  · have hrng : ¬ (rule < 1 ∨ 5 < rule) := fun h => by unfold rchk at hrc; rw [if_pos h] at hrc; cases hrc
    have hv : vchk n0 V = 0 := by unfold rchk at hrc; rw [if_neg hrng] at hrc; exact hrc
    obtain ⟨hn, hV30, _⟩ := vchk_zero hv
    obtain ⟨n, rfl⟩ : ∃ n : Nat, n0 = n := ⟨n0.toNat, by omega⟩
    have hN1 : 1 ≤ n := by omega
    have hN6 : n ≤ 6 := by omega
    have hq1 : ¬ rule < 1 := by omega
    have hq5 : ¬ 5 < rule := by omega
    have HV := Lib.hid hv
    have HRC := Lib.hid hrc
    have HP := Lib.hid (voteperm hv)
    have hwp := winL_pos rule hN1 V
    have hwl := winL_le rule hN1 V
    have HSX : Hid (soleX rule n V = if 1 < (winL rule n V).length then 0 else (winL rule n V).getD 0 0) := rfl
    have HSE : Hid (soleE rule n V = if 1 < (winL rule n V).length then 5 else 0) := rfl
    have QW := Lib.hid (DW.out rule n a V.length c V w TI.out hrc)
    have QS : Hid (∀ W, Below w.heap.size w W → Calls Try.prog 12 #[.int .i64 rule, .int .i64 n, .slice a V.length c] W fun e w' => e = .returned (.tuple #[.int .i64 (soleX rule n V), .int .i64 (soleE rule n V)]) ∧ Below W.heap.size W w') := fun W hW => SS.out rule n a V.length c V W (TI.out.below hW) hrc
    have QO : Hid (∀ W, Below w.heap.size w W → Calls Try.prog 14 #[.int .i64 rule, .int .i64 n, .slice a V.length c] W (WinOut (winL rule n V) W)) := fun W hW => winnersOf_any rule (by omega) (by omega) hN1 hN6 a c V W w.heap.size hW.size (HR.out.below hW (Nat.le_refl _)) hV30 HP.out
    clear hrc hv hn hrng DE DW SE SS
    generalize winL rule n V = L at *
    generalize soleX rule n V = sx at *
    generalize soleE rule n V = se at *
    go_enter Try.func3, Try.ntmps3
    go_wp2_with fail
    refine QW.out.mono ?_
    rintro e w1 ⟨a1, c1, rfl, _, _, r1, hb1⟩
    go_wp2_with fail
    refine (QS.out w1 hb1).mono ?_
    rintro e w2 ⟨rfl, hb2⟩
    have hb02 := ext_trans hb1 hb2
    have r2 := rd_ext r1 hb2
    clear r1 hb1 hb2 QW QS
    go_wp2_with fail
    refine (voteErr_any n a V.length c V w2 w.heap.size hb02.size (HR.out.below hb02 (Nat.le_refl _)) H8.out).mono ?_
    rintro e w3 ⟨rfl, hb3⟩
    rw [HV.out]
    have hb03 := ext_trans hb02 hb3
    have R3 := Lib.hid (rd_ext r2 hb3)
    clear r2 hb02 hb3
    go_wp2_with fail
    refine (QO.out w3 hb03).mono ?_
    rintro e w4 ⟨v4, rfl, o4, hb4⟩
    obtain ⟨g4, cap4, rfl, hg4a, hg4b, hg4c, hg4d, _⟩ := own_form o4 hwp
    have R4 := Lib.hid (Rd.of_own o4)
    have R3' := Lib.hid (rd_ext R3.out hb4)
    have hb04 := ext_trans hb03 hb4
    have HC4 := Lib.hid (own_cell o4)
    clear o4 hb4 hb03 QO R3
    go_wp2_with fail
    refine (equal_ext L L a1 (some ⟨g4, 0, none⟩) L.length c1 L.length cap4 w4 R3'.out R4.out (by omega) (by omega)).mono ?_
    rintro e w5 ⟨rfl, hb5⟩
    have hb05 := ext_trans hb04 hb5
    have c0 := (hb5.cell (show (⟨g4, 0, none⟩ : Addr).block < _ from hg4b)).trans (HC4.out 0 hwp)
    clear hb5 hb04 R4 R3' HC4
    by_cases hl : 1 < L.length
    · rw [if_pos hl] at HSX HSE
      have hli : (1 : Int) < ((L.length : Nat) : Int) := by omega
      have hsx := HSX.out
      have hse := HSE.out
      subst hsx; subst hse
      generalize L.getD 0 0 = y at *
      go_wp2
      go_ret
      exact ⟨rfl, hb05⟩
    · rw [if_neg hl] at HSX HSE
      have hli : ¬ (1 : Int) < ((L.length : Nat) : Int) := by omega
      have hsx := HSX.out
      have hse := HSE.out
      subst hse
      rw [← hsx] at c0
      clear hsx HSX
      have hl0 : (0 : Int) < ((L.length : Nat) : Int) := by omega
      go_wp2
      go_ret
      exact ⟨by simp, hb05⟩
  · have QW := Lib.hid (DE.out rule n0 a V.length c V w TI.out hrc)
    have QS : Hid (∀ W, Below w.heap.size w W → Calls Try.prog 12 #[.int .i64 rule, .int .i64 n0, .slice a V.length c] W fun e w' => e = .returned (.tuple #[.int .i64 0, .int .i64 (rchk rule n0 V)]) ∧ Below W.heap.size W w') := fun W hW => SE.out rule n0 a V.length c V W (TI.out.below hW) hrc
    have HRC : Hid ((rule < 1 ∨ 5 < rule) → rchk rule n0 V = 1) := fun h => by unfold rchk; rw [if_pos h]
    have HRV : Hid (¬ (rule < 1 ∨ 5 < rule) → vchk n0 V = rchk rule n0 V) := fun h => by unfold rchk; rw [if_neg h]
    have HNZ := Lib.hid hrc
    clear hrc DE DW SE SS
    generalize rchk rule n0 V = rc at *
    go_enter Try.func3, Try.ntmps3
    go_wp2_with fail
    refine QW.out.mono ?_
    rintro e w1 ⟨a1, c1, rfl, hb1⟩
    go_wp2_with fail
    refine (QS.out w1 hb1).mono ?_
    rintro e w2 ⟨rfl, hb2⟩
    have hb02 := ext_trans hb1 hb2
    clear hb1 hb2 QW QS
    go_wp2_with fail
    refine (voteErr_any n0 a V.length c V w2 w.heap.size hb02.size (HR.out.below hb02 (Nat.le_refl _)) H8.out).mono ?_
    rintro e w3 ⟨rfl, hb3⟩
    have hb03 := ext_trans hb02 hb3
    clear hb02 hb3
    by_cases h1 : rule < 1
    · have hrc := HRC.out (.inl h1)
      subst hrc
      generalize vchk n0 V = vv at *
      go_wp2
      go_ret
      exact ⟨rfl, hb03⟩
    · by_cases h5 : 5 < rule
      · have hrc := HRC.out (.inr h5)
        subst hrc
        generalize vchk n0 V = vv at *
        go_wp2
        go_ret
        exact ⟨rfl, hb03⟩
      · have hrc := HRV.out (by omega)
        rw [hrc]
        have hnb : (rc != 0) = true := by have := HNZ.out; simpa using this
        clear hrc HRC HRV HNZ
        go_wp2
        go_ret
        exact ⟨by simp, hb03⟩
end Go.Proofs.Ytbpenheomiejfaa

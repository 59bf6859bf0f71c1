/-
  plumelaw.PowerSays returns true, for every slice of ints and two ints, if package power keeps its contracts; nothing that was there is written.
-/
import Derived.Test.YtdoidajdfnbiiaaCSwingsOf
import Derived.Test.YtdoidajdfnbiiaaCEqual
namespace Go.Proofs.Ytdoidajdfnbiiaa
open Go.RowKit Fm
set_option linter.unusedVariables false

theorem winE_bad {P : List Int} {q s : Int} (h : wchk P q ≠ 0) : winE P q s = wchk P q ∧ winA P q s = false := by
  have e : winE P q s = wchk P q := by unfold winE; rw [if_pos h]
  refine ⟨e, ?_⟩
  unfold winA
  rw [e, decide_eq_false h]; rfl
theorem winE_out {P : List Int} {q s : Int} (h : wchk P q = 0) (hs : s < 0 ∨ (2 ^ P.length : Nat) ≤ s) : winE P q s = 1 ∧ winA P q s = false := by
  have e : winE P q s = 1 := by unfold winE; rw [if_neg (by simpa using h), if_pos hs]
  refine ⟨e, ?_⟩
  unfold winA
  rw [e]; rfl

set_option maxHeartbeats 4000000 in
set_option maxRecDepth 100000 in
theorem powerSays_is (pC : PwCheck) (pW : PwWins) (pSE : PwSwingsE) (pS : PwSwings) (pTE : PwTurnsE) (pT : PwTurns) (v0 : Value) (P : List Int) {w : World} (f0 : IsInts w v0 P) (q0 : Int) (hq0 : -9223372036854775808 ≤ q0) (hq1 : q0 ≤ 9223372036854775807) (s0 : Int) (hs0 : -9223372036854775808 ≤ s0) (hs1 : s0 ≤ 9223372036854775807) :
    Calls Try.prog 3 #[v0, .int .i64 q0, .int .i64 s0] w fun e w' => e = .returned (.bool true) ∧ Below w.heap.size w w' := by
  obtain ⟨a, c, rfl, hr, _, hlc, _, hcm, h8⟩ := f0
  have LW : Hid (∀ W, Below w.heap.size w W → LstW W a P.length c P) := fun W hW => ⟨rd_ext hr hW, by omega, hlc⟩
  have QC : Hid (∀ W, Below w.heap.size w W → Calls Try.prog 13 #[.slice a P.length c, .int .i64 q0] W fun e w' => e = .returned (.int .i64 (wchk P q0)) ∧ Below W.heap.size W w') := fun W hW => pC a P.length c P q0 W (LW.out W hW)
  have QW : Hid (∀ W, Below w.heap.size w W → Calls Try.prog 9 #[.slice a P.length c, .int .i64 q0, .int .i64 s0] W fun e w' => e = .returned (.tuple #[.bool (winA P q0 s0), .int .i64 (winE P q0 s0)]) ∧ Below W.heap.size W w') := fun W hW => pW a P.length c P q0 s0 W (LW.out W hW)
  have QE : Hid (∀ W, Below w.heap.size w W → Calls Try.prog 12 #[.slice a P.length c, .int .i64 q0] W fun e w' => e = .returned (.int .i64 (wchk P q0)) ∧ W = w') := fun W hW => powerErr_any a P.length c P q0 W W.heap.size (rd_ext hr hW) (by omega)
  unfold maxLen at hcm
  by_cases hw : wchk P q0 = 0
  · obtain ⟨q, rfl, g⟩ := wchk_ok hw
    have HG := Lib.hid g
    have HW := Lib.hid hw
    have hp1 := g.pos
    have hp6 := g.le
    have hqq := g.q1
    obtain ⟨n, hn⟩ : ∃ n, P.length = n := ⟨_, rfl⟩
    have HN := Lib.hid hn
    have QS : Hid (∀ W, Below w.heap.size w W → Calls Try.prog 10 #[.slice a n c, .int .i64 q] W (PwOut n (swL P q) W)) := fun W hW => by
      have h := LW.out W hW
      exact sw_use pS HG.out HN.out a c (by omega) W (by rw [← hn]; exact h.1)
    have QT : Hid (∀ W, Below w.heap.size w W → Calls Try.prog 11 #[.slice a n c, .int .i64 q] W (PwOut n (tuL P q) W)) := fun W hW => by
      have h := LW.out W hW
      exact tu_use pT HG.out HN.out a c (by omega) W (by rw [← hn]; exact h.1)
    have QR : Hid (∀ W, Below w.heap.size w W → Calls Try.prog 14 #[.slice a n c, .int .i64 q] W (SwOut P q W)) := fun W hW => swingsOf_any HG.out HN.out a c (by omega) (by omega) W (by rw [← hn]; exact rd_ext hr hW)
    have QH : Hid (∀ W (S : Nat), S ≤ 64 → Below w.heap.size w W → Calls Try.prog 16 #[.slice a n c, .int .i64 S] W fun e w' => e = .returned (.int .i64 (hv (wt P) n S)) ∧ ∃ m, w' = W.drewN m) := fun W S hS hW => heavy_any HG.out.bd HN.out (by omega) (by omega) a c W W.heap.size (by omega) (by omega) (by rw [← hn]; exact rd_ext hr hW)
    obtain ⟨N, hNN⟩ : ∃ N : Nat, 2 ^ n = N := ⟨_, rfl⟩
    have hN64 : N ≤ 64 := by rw [← hNN]; exact pow_le6 (by omega)
    have HPW : Hid (wrap64 (2 ^ n) = (N : Int)) := by show _ = _; rw [← hNN]; exact pw_atS (by omega)
    have HOUT : Hid ((s0 < 0 ∨ (N : Int) ≤ s0) → winE P q s0 = 1 ∧ winA P q s0 = false) := fun h => winE_out hw (by rw [hn, hNN]; exact h)
    have HIN : Hid (∀ S : Nat, s0 = S → S < N → winE P q s0 = 0 ∧ winA P q s0 = decide (q ≤ hv (wt P) n S)) := fun S hS hSN => by
      obtain ⟨e1, e2⟩ := HG.out.win (S := S) (by rw [hn, hNN]; exact hSN)
      rw [hS]
      refine ⟨e1, ?_⟩
      rw [e2, hn]; rfl
    rw [hw] at QC QE
    rw [hn] at QC QW QE hp1 hp6 ⊢
    clear hn hNN LW hr g pC pW pSE pS pTE pT hw hlc h8 hcm
    generalize winA P q s0 = iA at *
    generalize winE P q s0 = eA at *
    go_enter Try.func3, Try.ntmps3
    go_wp2_with fail
    refine (QW.out w (Below.refl _ w)).mono ?_
    rintro e w1 ⟨rfl, hb1⟩
    go_wp2_with fail
    refine (QS.out w1 hb1).mono ?_
    rintro e w2 ⟨a2, c2, rfl, r2, hb2⟩
    have hb02 := ext_trans hb1 hb2
    go_wp2_with fail
    refine (QT.out w2 hb02).mono ?_
    rintro e w3 ⟨a3, c3, rfl, r3, hb3⟩
    have hb03 := ext_trans hb02 hb3
    have r23 := rd_ext r2 hb3
    clear QW QS QT hb1 hb2 hb02 hb3 r2
    go_wp2_with fail
    refine (QE.out w3 hb03).mono ?_
    rintro e w3' ⟨rfl, rfl⟩
    go_wp2_with fail
    refine (QC.out w3 hb03).mono ?_
    rintro e w4 ⟨rfl, hb4⟩
    have hb04 := ext_trans hb03 hb4
    have r24 := rd_ext r23 hb4
    have r34 := rd_ext r3 hb4
    clear QE QC hb03 hb4 r23 r3
    go_wp2_with fail
    refine (QR.out w4 hb04).mono ?_
    rintro e w5 ⟨va, vb, rfl, oa, ob, hb5⟩
    rw [HN.out] at oa ob
    obtain ⟨a5, c5, rfl, _, _⟩ := own_slice oa
    obtain ⟨a6, c6, rfl, _, _⟩ := own_slice ob
    have hb05 := ext_trans hb04 hb5
    have Q1 := Lib.hid (equal_ext (swL P q) (swL P q) a2 a5 n c2 n c5 w5 (rd_ext r24 hb5) (Rd.of_own oa) (by omega) (by omega))
    rw [show decide (swL P q = swL P q) = true from decide_eq_true rfl] at Q1
    have R3 := Lib.hid (rd_ext r34 hb5)
    have R6 := Lib.hid (Rd.of_own ob)
    clear QR hb04 hb5 r24 r34 oa ob
    go_wp2_with fail
    refine Q1.out.mono ?_
    rintro e w6 ⟨rfl, hb6⟩
    have Q2 := Lib.hid (equal_ext (tuL P q) (tuL P q) a3 a6 n c3 n c6 w6 (rd_ext R3.out hb6) (rd_ext R6.out hb6) (by omega) (by omega))
    rw [show decide (tuL P q = tuL P q) = true from decide_eq_true rfl] at Q2
    have hb06 := ext_trans hb05 hb6
    clear Q1 hb6 hb05 R3 R6
    go_wp2_with fail
    refine Q2.out.mono ?_
    rintro e w7 ⟨rfl, hb7⟩
    have hb07 := ext_trans hb06 hb7
    clear Q2 hb06 hb7
    by_cases k1 : s0 < 0
    · obtain ⟨rfl, rfl⟩ := HOUT.out (.inl k1)
      clear HOUT HIN QH
      go_wp2
      go_ret
      exact ⟨rfl, hb07⟩
    · by_cases k2 : (N : Int) ≤ s0
      · obtain ⟨rfl, rfl⟩ := HOUT.out (.inr k2)
        have hpw := HPW.out
        clear HOUT HIN QH
        go_wp2
        go_ret
        exact ⟨rfl, hb07⟩
      · obtain ⟨S, hS⟩ : ∃ S : Nat, s0 = S := ⟨s0.toNat, by omega⟩
        obtain ⟨rfl, hiA⟩ := HIN.out S hS (by omega)
        have QH1 := Lib.hid (QH.out w7 S (by omega) hb07)
        subst hS
        subst hiA
        have hpw := HPW.out
        clear HOUT HIN QH
        generalize hv (wt P) n S = H at *
        have k2' : ¬ (wrap64 (2 ^ n)) ≤ (S : Int) := by rw [hpw]; exact k2
        have hsame : (decide (q ≤ H) == decide (q ≤ H)) = true := by simp
        go_wp2_with fail
        refine QH1.out.mono ?_
        rintro e w8 ⟨rfl, m8, rfl⟩
        clear hpw k2'
        go_wp2
        go_ret
        exact ⟨rfl, below_drewN hb07 _⟩
  · have HE := Lib.hid (pSE a P.length c P q0)
    have HT := Lib.hid (pTE a P.length c P q0)
    obtain ⟨e1, e2⟩ := winE_bad (s := s0) hw
    rw [e1, e2] at QW
    have QS : Hid (∀ W, Below w.heap.size w W → Calls Try.prog 10 #[.slice a P.length c, .int .i64 q0] W (ErrOut (wchk P q0) W)) := fun W hW => HE.out W (LW.out W hW) hw
    have QT : Hid (∀ W, Below w.heap.size w W → Calls Try.prog 11 #[.slice a P.length c, .int .i64 q0] W (ErrOut (wchk P q0) W)) := fun W hW => HT.out W (LW.out W hW) hw
    obtain ⟨ck, hck⟩ : ∃ x, wchk P q0 = x := ⟨_, rfl⟩
    rw [hck] at QC QW QE QS QT hw
    have hne : (ck != 0) = true := by simpa using hw
    have hsame : (ck == ck) = true := by simp
    have hsame2 : (ck != ck) = false := by simp
    clear hck hw e1 e2 HE HT LW pC pW pSE pS pTE pT hr
    generalize P.length = n at *
    go_enter Try.func3, Try.ntmps3
    go_wp2_with fail
    refine (QW.out w (Below.refl _ w)).mono ?_
    rintro e w1 ⟨rfl, hb1⟩
    go_wp2_with fail
    refine (QS.out w1 hb1).mono ?_
    rintro e w2 ⟨a2, c2, rfl, hb2⟩
    have hb02 := ext_trans hb1 hb2
    go_wp2_with fail
    refine (QT.out w2 hb02).mono ?_
    rintro e w3 ⟨a3, c3, rfl, hb3⟩
    have hb03 := ext_trans hb02 hb3
    clear QW QS QT hb1 hb2 hb02 hb3
    go_wp2_with fail
    refine (QE.out w3 hb03).mono ?_
    rintro e w3' ⟨rfl, rfl⟩
    go_wp2_with fail
    refine (QC.out w3 hb03).mono ?_
    rintro e w4 ⟨rfl, hb4⟩
    have hb04 := ext_trans hb03 hb4
    clear QE QC hb03 hb4
    go_wp2
    go_ret
    exact ⟨rfl, hb04⟩
end Go.Proofs.Ytdoidajdfnbiiaa

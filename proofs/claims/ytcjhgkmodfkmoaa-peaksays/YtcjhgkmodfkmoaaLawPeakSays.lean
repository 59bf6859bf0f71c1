/-
  plumelaw.PeakSays returns true, for every two slices of ints and slice of slices of ints, if package peak keeps its contracts; nothing that was there is written.
-/
import Derived.Test.YtcjhgkmodfkmoaaPeakP
import Derived.Test.YtcjhgkmodfkmoaaCOrderErr
import Derived.Test.YtcjhgkmodfkmoaaCVoteErr
import Derived.Test.YtcjhgkmodfkmoaaCAlongOf
import Derived.Test.YtcjhgkmodfkmoaaCMiddleOf
namespace Go.Proofs.Ytcjhgkmodfkmoaa
open Go.RowKit Fm
set_option linter.unusedVariables false

theorem vperm7 {n : Nat} {V : List (List Int)} (h : vchk n V = 0) : ∀ p ∈ V, p.Perm (sides n) := fun p hp => by
  obtain ⟨h1, h2, h3⟩ := chk_zero ((vchk_zero h).2.2 p hp)
  exact isOrd_perm (by omega) h3
theorem all_snoc (f : List Int → Bool) (V : List (List Int)) {t : Nat} (ht : t < V.length) : (V.take (t + 1)).all f = ((V.take t).all f && f (V.getD t [])) := by
  have hsn : V.take (t + 1) = V.take t ++ [V.getD t []] := by
    rw [List.take_succ_eq_append_getElem ht, List.getD_eq_getElem?_getD, List.getElem?_eq_getElem ht]; rfl
  rw [hsn, List.all_append]
  simp

set_option maxHeartbeats 4000000 in
set_option maxRecDepth 100000 in
theorem peakSays_is (pA : PAlong) (pL : PAll) (pM : PMiddle) (v0 : Value) (line : List Int) {w : World} (f0 : IsInts w v0 line) (v1 : Value) (p : List Int) (f1 : IsInts w v1 p) (v2 : Value) (V : List (List Int)) (f2 : IsRows w v2 V) :
    Calls Try.prog 3 #[v0, v1, v2] w fun e w' => e = .returned (.bool true) ∧ Below w.heap.size w w' := by
  obtain ⟨a0, c0, rfl, r0, _, hc0, _, _, h08⟩ := f0
  obtain ⟨a1, c1, rfl, r1, _, hc1, _, _, h18⟩ := f1
  obtain ⟨a2, c2, rfl, r2, hall, _, _, _, h24⟩ := f2
  have L0 : Hid (∀ W, Below w.heap.size w W → LstIn W a0 line.length c0 line) := fun W hW => ⟨rd_ext r0 hW, by omega, hc0⟩
  have L1 : Hid (∀ W, Below w.heap.size w W → LstIn W a1 p.length c1 p) := fun W hW => ⟨rd_ext r1 hW, by omega, hc1⟩
  have TI : Hid (∀ W, Below w.heap.size w W → TabIn W a2 V.length V) := fun W hW => ⟨W.heap.size, Nat.le_refl _, rdr_ext r2 hW, by omega, fun l hl => by have := (hall l hl).2; omega⟩
  have QA : Hid (∀ W, Below w.heap.size w W → Calls Try.prog 7 #[.slice a0 line.length c0, .slice a1 p.length c1] W fun e w' => e = .returned (.tuple #[.bool (alongA line p), .int .i64 (achk line p)]) ∧ Below W.heap.size W w') := fun W hW => pA a0 _ c0 line a1 _ c1 p W (L0.out W hW) (L1.out W hW)
  have QL : Hid (∀ W, Below w.heap.size w W → Calls Try.prog 8 #[.slice a0 line.length c0, .slice a2 V.length c2] W fun e w' => e = .returned (.tuple #[.bool (allA line V), .int .i64 (lchk line V)]) ∧ Below W.heap.size W w') := fun W hW => pL a0 _ c0 line a2 _ c2 V W (L0.out W hW) (TI.out W hW)
  have QM : Hid (∀ W, Below w.heap.size w W → Calls Try.prog 9 #[.slice a0 line.length c0, .slice a2 V.length c2] W fun e w' => e = .returned (.tuple #[.int .i64 (midA line V), .int .i64 (mchk line V)]) ∧ Below W.heap.size W w') := fun W hW => pM a0 _ c0 line a2 _ c2 V W (L0.out W hW) (TI.out W hW)
  have QO : Hid (∀ W, Below w.heap.size w W → Calls Try.prog 10 #[.int .i64 line.length, .slice a0 line.length c0] W fun e w' => e = .returned (.int .i64 (chk line.length line)) ∧ Below W.heap.size W w') := fun W hW => orderErr_any _ a0 _ c0 line W W.heap.size (Nat.le_refl _) (rd_ext r0 hW) h08
  have QO1 : Hid (∀ W, Below w.heap.size w W → Calls Try.prog 10 #[.int .i64 line.length, .slice a1 p.length c1] W fun e w' => e = .returned (.int .i64 (chk line.length p)) ∧ Below W.heap.size W w') := fun W hW => orderErr_any _ a1 _ c1 p W W.heap.size (Nat.le_refl _) (rd_ext r1 hW) h18
  have QV : Hid (∀ W, Below w.heap.size w W → Calls Try.prog 12 #[.int .i64 line.length, .slice a2 V.length c2] W fun e w' => e = .returned (.int .i64 (vchk line.length V)) ∧ Below W.heap.size W w') := fun W hW => voteErr_any _ a2 _ c2 V W W.heap.size (Nat.le_refl _) (rdr_ext r2 hW) (fun l hl => (hall l hl).2)
  have R0 := Lib.hid r0
  have R1 := Lib.hid r1
  have R2 := Lib.hid r2
  clear pA pL pM r0 r1 r2 hall
  by_cases hk : chk line.length line = 0
  · obtain ⟨hpm, hn1, hn6⟩ := chk_perms hk
    have HPM := Lib.hid hpm
    have HAK := Lib.hid (achk_ok (p := p) hk)
    have HLK := Lib.hid (lchk_ok (V := V) hk)
    rw [hk] at QO
    rw [HAK.out] at QA
    rw [HLK.out] at QL
    clear hpm hk L0 L1 TI
    obtain ⟨n, hn⟩ : ∃ n, line.length = n := ⟨_, rfl⟩
    have HAO : Hid (chk n p = 0 → alongA line p = alongB line p) := fun h => alongA_ok (by rw [HAK.out, hn, h])
    have HAB : Hid (chk n p ≠ 0 → alongA line p = false) := fun h => alongA_bad (by rw [HAK.out, hn]; exact h)
    have HLO : Hid (vchk n V = 0 → allA line V = V.all (alongB line)) := fun h => allA_ok (by rw [HLK.out, hn, h])
    have HLB : Hid (vchk n V ≠ 0 → allA line V = false ∧ mchk line V = vchk n V ∧ midA line V = 0) := fun h => by
      have h2 : lchk line V ≠ 0 := by rw [HLK.out, hn]; exact h
      have h3 : mchk line V = vchk n V := by rw [mchk_bad h2, HLK.out, hn]
      exact ⟨allA_bad h2, h3, midA_bad (by rw [h3]; exact h)⟩
    have HMF : Hid (vchk n V = 0 → V.all (alongB line) = false → mchk line V = 3 ∧ midA line V = 0) := fun h h2 => by
      have h3 := mchk_form (line := line) (V := V) (by rw [HLK.out, hn, h]) h2
      exact ⟨h3, midA_bad (by rw [h3]; omega)⟩
    have HMN : Hid (vchk n V = 0 → V.all (alongB line) = true → V.length = 0 → mchk line V = 4 ∧ midA line V = 0) := fun h h2 h4 => by
      have h3 := mchk_none (line := line) (V := V) (by rw [HLK.out, hn, h]) h2 h4
      exact ⟨h3, midA_bad (by rw [h3]; omega)⟩
    have HMO : Hid (vchk n V = 0 → V.all (alongB line) = true → V.length ≠ 0 → mchk line V = 0 ∧ midA line V = midL line V) := fun h h2 h4 => by
      have h3 := mchk_ok (line := line) (V := V) (by rw [HLK.out, hn, h]) h2 h4
      exact ⟨h3, midA_ok h3⟩
    have QAO : Hid (chk n p = 0 → ∀ W, Below w.heap.size w W → Calls Try.prog 11 #[.slice a0 n c0, .slice a1 p.length c1] W fun e w' => e = .returned (.bool (alongB line p)) ∧ Below W.heap.size W w') := fun h W hW => by
      obtain ⟨g1, g2, g3⟩ := chk_zero h
      have hpl : p.length = n := by omega
      have q0 := rd_ext R0.out hW
      have q1 := rd_ext R1.out hW
      rw [hn] at q0
      rw [hpl] at q1 ⊢
      have hp0 := HPM.out
      rw [hn] at hp0
      exact alongOf_any hp0 (isOrd_perm hpl g3) (by omega) (by omega) a0 a1 c0 c1 W q0 q1
    have QAV : Hid (vchk n V = 0 → ∀ W q a c, q ∈ V → Below w.heap.size w W → Rd W W.heap.size a q.length q → Calls Try.prog 11 #[.slice a0 n c0, .slice a q.length c] W fun e w' => e = .returned (.bool (alongB line q)) ∧ Below W.heap.size W w') := fun h W q a c hq hW hr => by
      have hqp := vperm7 h q hq
      have hql := perm_len hqp
      have q0 := rd_ext R0.out hW
      rw [hn] at q0
      rw [hql] at hr ⊢
      have hp0 := HPM.out
      rw [hn] at hp0
      exact alongOf_any hp0 hqp (by omega) (by omega) a0 a c0 c W q0 hr
    have QMO : Hid (vchk n V = 0 → ∀ W, Below w.heap.size w W → Calls Try.prog 13 #[.slice a0 n c0, .slice a2 V.length c2] W fun e w' => e = .returned (.int .i64 (midL line V)) ∧ W = w') := fun h W hW => by
      have q0 := rd_ext R0.out hW
      rw [hn] at q0
      have hp0 := HPM.out
      rw [hn] at hp0
      exact middleOf_any hp0 (by omega) (by omega) (vperm7 h) (vchk_zero h).2.1 a0 a2 c0 c2 W.heap.size W q0 (rdr_ext R2.out hW)
    have hv30 : vchk n V = 0 → V.length ≤ 30 := fun h => (vchk_zero h).2.1
    have HV30 := Lib.hid hv30
    rw [hn] at QA QL QM QO QO1 QV hn1 hn6 h08 hc0 ⊢
    clear hn HAK HLK HPM R0 R1 hv30
    obtain ⟨N, hN⟩ : ∃ N, V.length = N := ⟨_, rfl⟩
    rw [hN] at QL QM QV QMO R2 HMN HMO HV30 h24 ⊢
    have HN := Lib.hid hN
    clear hN
    generalize alongA line p = iA at *
    generalize allA line V = iL at *
    generalize mchk line V = eM at *
    generalize midA line V = mi at *
    obtain ⟨cp, hcp⟩ : ∃ x, chk n p = x := ⟨_, rfl⟩
    rw [hcp] at QA QO1 HAO HAB QAO
    clear hcp
    obtain ⟨cv, hcv⟩ : ∃ x, vchk n V = x := ⟨_, rfl⟩
    rw [hcv] at QL QV HLO HLB HMF HMN HMO QAV QMO HV30
    clear hcv
    go_enter Try.func3, Try.ntmps3
    go_wp2_with fail
    refine (QA.out w (Below.refl _ w)).mono ?_
    rintro e w1 ⟨rfl, hb1⟩
    clear QA
    go_wp2_with fail
    refine (QL.out w1 hb1).mono ?_
    rintro e w2 ⟨rfl, hb2⟩
    have hb02 := ext_trans hb1 hb2
    clear QL hb1 hb2
    go_wp2_with fail
    refine (QM.out w2 hb02).mono ?_
    rintro e w3 ⟨rfl, hb3⟩
    have hb03 := ext_trans hb02 hb3
    clear QM hb02 hb3
    go_wp2_with fail
    refine (QO.out w3 hb03).mono ?_
    rintro e w4 ⟨rfl, hb4⟩
    have hb04 := ext_trans hb03 hb4
    clear QO hb03 hb4
    go_wp2_with fail
    refine (QO1.out w4 hb04).mono ?_
    rintro e w5 ⟨rfl, hb5⟩
    have hb05 := ext_trans hb04 hb5
    clear QO1 hb04 hb5
    have hsame : (cp != cp) = false := by simp
    have hsv : (cv == cv) = true := by simp
    by_cases hcp : cp = 0
    case' pos =>
      have QAO1 := Lib.hid (QAO.out hcp)
      have hia := HAO.out hcp
      subst hia
      subst hcp
      clear HAO HAB QAO
      generalize alongB line p = rA at *
      go_wp2_with fail
      refine (QAO1.out w5 hb05).mono ?_
      rintro e w6 ⟨rfl, hb6⟩
      have hb06 := ext_trans hb05 hb6
      clear QAO1 hb05 hb6
      have hss : (rA != rA) = false := by simp
      go_wp2_with fail
    case' neg =>
      have hia := HAB.out hcp
      subst hia
      have hc1 : (cp == 0) = false := by simpa using hcp
      have hb06 := hb05
      obtain ⟨w6, rfl⟩ : ∃ w6, w6 = w5 := ⟨_, rfl⟩
      clear HAO HAB QAO hb05 hcp
      go_wp2_with fail
    all_goals
      refine (QV.out w6 hb06).mono ?_
      rintro e w7 ⟨rfl, hb7⟩
      have hb07 := ext_trans hb06 hb7
      clear QV hb06 hb7
      by_cases hcv : cv = 0
      · have QAV1 := Lib.hid (QAV.out hcv)
        have QMO1 := Lib.hid (QMO.out hcv)
        have h30 := HV30.out hcv
        have hil := HLO.out hcv
        have HMF1 := Lib.hid (HMF.out hcv)
        have HMN1 := Lib.hid (HMN.out hcv)
        have HMO1 := Lib.hid (HMO.out hcv)
        subst hil
        subst hcv
        clear HLO HLB HMF HMN HMO QAV QMO HV30
        go_wp2_with fail
        go_loopw [15, 109] (fun ok i wr => ∃ t : Nat, t ≤ N ∧ i = .int .i64 t ∧ ok = .bool ((V.take t).all (alongB line)) ∧ Below w.heap.size w wr) (fun _ i _ => N - (intOf i).toNat)
        case atStart => exact ⟨0, Nat.zero_le _, rfl, rfl, hb07⟩
        case round =>
          obtain ⟨t, ht, rfl, rfl, hbel⟩ := hrel
          clear hb07
          by_cases htN : t < N
          · have htl : t < V.length := by rw [HN.out]; exact htN
            have HSN := Lib.hid (all_snoc (alongB line) V htl)
            obtain ⟨b2, o2, a', c', rfl, hb2, hcell, _, _, _, hrd⟩ := R2.out.at_ htN
            have hct : wr.cell? ⟨b2, o2 + t, none⟩ = some (.slice a' (V.getD t []).length c') := (hbel.cell (by exact hb2)).trans hcell
            have QC := Lib.hid (QAV1.out wr (V.getD t []) a' c' (memR htl) hbel (rd_ext hrd hbel))
            clear hcell hrd htl
            generalize V.getD t [] = q at *
            generalize (V.take t).all (alongB line) = ok at *
            cases ok with
            | true =>
              rw [Bool.true_and] at HSN
              generalize alongB line q = r at *
              go_wp2_with fail
              refine QC.out.mono ?_
              rintro e w8 ⟨rfl, hb8⟩
              have hb08 := ext_trans hbel hb8
              clear QC hbel hb8 hct
              go_wp2
              go_roundw
              case rel => exact ⟨t + 1, by omega, by go_num, by rw [HSN.out], hb08⟩
              case measure => simp [intOf]; omega
            | false =>
              rw [Bool.false_and] at HSN
              clear QC
              go_wp2
              go_roundw
              case rel => exact ⟨t + 1, by omega, by go_num, by rw [HSN.out], hbel⟩
              case measure => simp [intOf]; omega
          · obtain rfl : t = N := by omega
            rw [List.take_of_length_le (by rw [HN.out]; exact Nat.le_refl _)]
            generalize V.all (alongB line) = ok at *
            cases ok with
            | false =>
              obtain ⟨rfl, rfl⟩ := HMF1.out rfl
              clear HMF1 HMN1 HMO1 QAV1 QMO1
              go_wp2
              go_ret
              exact ⟨rfl, hbel⟩
            | true =>
              by_cases h0 : t = 0
              · obtain ⟨rfl, rfl⟩ := HMN1.out rfl h0
                have hz : ((t : Int) == 0) = true := by simpa using h0
                clear HMF1 HMN1 HMO1 QAV1 QMO1 h0
                go_wp2
                go_ret
                exact ⟨rfl, hbel⟩
              · obtain ⟨rfl, rfl⟩ := HMO1.out rfl h0
                have hz : ((t : Int) == 0) = false := beq_eq_false_iff_ne.2 (by omega)
                have QM2 := Lib.hid (QMO1.out wr hbel)
                clear HMF1 HMN1 HMO1 QAV1 QMO1 h0
                generalize midL line V = ml at *
                have hmm : (ml == ml) = true := by simp
                go_wp2_with fail
                refine QM2.out.mono ?_
                rintro e w8 ⟨rfl, rfl⟩
                clear QM2
                go_wp2
                go_ret
                exact ⟨rfl, hbel⟩
      · obtain ⟨rfl, rfl, rfl⟩ := HLB.out hcv
        have hc2 : (eM != 0) = true := by simpa using hcv
        clear hcv HLO HLB HMF HMN HMO QAV QMO HV30
        go_wp2
        go_ret
        exact ⟨rfl, hb07⟩
  · have ha := achk_bad (p := p) hk
    have hl := lchk_bad (V := V) hk
    have e1 := alongA_bad (by rw [ha]; exact hk)
    have e2 := allA_bad (by rw [hl]; exact hk)
    have e3 := mchk_bad (by rw [hl]; exact hk)
    have e4 := midA_bad (by rw [e3, hl]; exact hk)
    rw [ha, e1] at QA
    rw [hl, e2] at QL
    rw [e3, hl, e4] at QM
    clear QO1 QV ha hl e1 e2 e3 e4 L0 L1 TI R0 R1 R2
    obtain ⟨ck, hck⟩ : ∃ x, chk line.length line = x := ⟨_, rfl⟩
    rw [hck] at QA QL QM QO hk
    clear hck
    have hne : (ck != 0) = true := by simpa using hk
    have hsame : (ck == ck) = true := by simp
    clear hk
    generalize line.length = n at *
    generalize V.length = N at *
    go_enter Try.func3, Try.ntmps3
    go_wp2_with fail
    refine (QA.out w (Below.refl _ w)).mono ?_
    rintro e w1 ⟨rfl, hb1⟩
    clear QA
    go_wp2_with fail
    refine (QL.out w1 hb1).mono ?_
    rintro e w2 ⟨rfl, hb2⟩
    have hb02 := ext_trans hb1 hb2
    clear QL hb1 hb2
    go_wp2_with fail
    refine (QM.out w2 hb02).mono ?_
    rintro e w3 ⟨rfl, hb3⟩
    have hb03 := ext_trans hb02 hb3
    clear QM hb02 hb3
    go_wp2_with fail
    refine (QO.out w3 hb03).mono ?_
    rintro e w4 ⟨rfl, hb4⟩
    have hb04 := ext_trans hb03 hb4
    clear QO hb03 hb4
    go_wp2
    go_ret
    exact ⟨rfl, hb04⟩
end Go.Proofs.Ytcjhgkmodfkmoaa

/-
  plumelaw.SaddleSays returns true, for every slice of slices of ints, if package saddle keeps its contracts; nothing that was there is written.
-/
import Derived.Test.YtcecpcibfbfanaaLawSaddleBounds
import Derived.Test.YtcecpcibfbfanaaCPayErr
import Derived.Test.YtcecpcibfbfanaaCBoundsOf
import Derived.Test.YtcecpcibfbfanaaCPointsOf
import Derived.Test.YtcecpcibfbfanaaNegMath
import Derived.Test.YtcecpcibfbfanaaCRows
namespace Go.Proofs.Ytcecpcibfbfanaa
open Go.RowKit Fm
set_option linter.unusedVariables false

set_option maxHeartbeats 4000000 in
set_option maxRecDepth 100000 in
theorem saddleSays_is (sC : SCheck) (sBE : SBoundsE) (sB : SBounds) (sPE : SPointsE) (sP : SPoints) (sTE : STurnedE) (sT : STurned) (v : Value) (L : List (List Int)) {w : World} (f : IsRows w v L) :
    Calls Try.prog 3 #[v] w fun e w' => e = .returned (.bool true) ∧ Below w.heap.size w w' := by
  obtain ⟨a, c, rfl, hr, hall, hlc, _, hcm, h24⟩ := f
  have HT := Lib.hid (tabIn_rowsB hr h24 hall)
  have HRR := Lib.hid hr
  have QC : Hid (∀ W, Below w.heap.size w W → Calls Try.prog 11 #[.slice a L.length c] W fun e w' => e = .returned (.int .i64 (pchk L)) ∧ Below W.heap.size W w') := fun W hW => sC a L.length c L W (HT.out.below hW)
  have QR : Hid (∀ W, Below w.heap.size w W → Calls Try.prog 10 #[.slice a L.length c] W fun e w' => e = .returned (.int .i64 (pchk L)) ∧ Below W.heap.size W w') := fun W hW => payErr_any a L.length c L W W.heap.size (Nat.le_refl _) (rdr_ext HRR.out hW) (by omega) (fun l hl => by have := (hall l hl).2; omega)
  by_cases h0 : pchk L = 0
  · have p := pchk_ok h0
    obtain ⟨k, hk⟩ : ∃ k, (L.getD 0 []).length = k := ⟨_, rfl⟩
    obtain ⟨r, hrl⟩ : ∃ r, L.length = r := ⟨_, rfl⟩
    rw [hk, hrl] at p
    have HP := Lib.hid p
    rw [hrl] at HT HRR QC QR hlc ⊢
    rw [h0] at QC QR
    have r6 := p.r6
    have k6 := p.k6
    have k1 := p.k1
    have QB := Lib.hid (sB r k a r c L w HT.out p)
    have QP : Hid (∀ W, Below w.heap.size w W → Calls Try.prog 8 #[.slice a r c] W (PairsOut (ptA L k r) W)) := fun W hW => sP r k a r c L W (HT.out.below hW) p
    have QT : Hid (∀ W, Below w.heap.size w W → Calls Try.prog 9 #[.slice a r c] W (MatOwn (turnT k L) W)) := fun W hW => sT r k a r c L W (HT.out.below hW) p
    have Q1 : Hid (∀ W, Below w.heap.size w W → Calls Try.prog 12 #[.slice a r c] W fun e w' => e = .returned (.tuple #[.int .i64 (loB L), .int .i64 (hiB k L)]) ∧ Below W.heap.size W w') := fun W hW => boundsOf_any p a r c W (rdr_ext HRR.out hW)
    have Q2 : Hid (∀ W, Below w.heap.size w W → Calls Try.prog 13 #[.slice a r c] W (ColsOut k L W)) := fun W hW => columns_any p a r c W (rdr_ext HRR.out hW)
    have Q3 : Hid (∀ W, Below w.heap.size w W → Calls Try.prog 15 #[.slice a r c] W (PtsOut (ptA L k r) W)) := fun W hW => pointsOf_any p a r c W (rdr_ext HRR.out hW)
    have hl36 := pt36 p
    have hTL : (turnT k L).length = k := turnT_len k L
    have hCL : (colsM k L).length = k := colsM_len k L
    have HCR : Hid (∀ j, j < k → ((colsM k L).getD j []).length = r) := fun j hj => by rw [colsM_at hj, colL_len, p.len]
    have HDN : Hid (∀ N, NegI (colsM k L) N k r k 0 → N = turnT k L) := fun N h => NegI.done p h
    have HCE : Hid (∀ j i, j < k → i < r → -1000 ≤ ent (colsM k L) j i ∧ ent (colsM k L) j i ≤ 1000) := fun j i hj hi => by
      unfold ent
      rw [colsM_at hj, colL_at j (by rw [p.len]; exact hi)]
      exact p.ent i j
    have HTR : Hid (∀ l ∈ turnT k L, l.length ≤ 1000000) := fun l hl => by have := (turn_pay p).rows l hl; omega
    clear h0 p hk hrl hr hall h24 sC sBE sB sPE sP sTE sT
    generalize ptA L k r = pts at *
    generalize loB L = lo at *
    generalize hiB k L = hi at *
    generalize turnT k L = T at *
    obtain ⟨C, hC⟩ : ∃ C, colsM k L = C := ⟨_, rfl⟩
    rw [hC] at hCL HCR HDN HCE
    have HCQ := Lib.hid hC
    clear hC
    have HC0 : Hid (NegI C C k r 0 0) := NegI.start hCL HCR.out
    obtain ⟨N, hN⟩ : ∃ N, pts.length = N := ⟨_, rfl⟩
    rw [hN] at hl36
    have HN := Lib.hid hN
    clear hN
    go_enter Try.func3, Try.ntmps3
    go_wp2_with fail
    refine QB.out.mono ?_
    rintro e w1 ⟨rfl, hb1⟩
    clear QB
    go_wp2_with fail
    refine (QP.out w1 hb1).mono ?_
    rintro e w2 ⟨a2, c2, rfl, hc2, hm2, r2, hb2⟩
    rw [HN.out] at r2 hc2 ⊢
    have hb02 := ext_trans hb1 hb2
    clear hb1 hb2 QP
    go_wp2_with fail
    refine (QT.out w2 hb02).mono ?_
    rintro e w3 h
    obtain ⟨a3, c3, rfl, hc3, hm3, r3, hb3⟩ := h.mat
    rw [hTL] at r3 hc3 ⊢
    have hb03 := ext_trans hb02 hb3
    have r23 := rd2_ext r2 hb3
    clear h hb3 hb02 r2 QT
    go_wp2_with fail
    refine (QR.out w3 hb03).mono ?_
    rintro e w4 ⟨rfl, hb4⟩
    have hb04 := ext_trans hb03 hb4
    have r24 := rd2_ext r23 hb4
    have r34 := rdr_ext r3 hb4
    clear hb4 hb03 r23 r3 QR
    go_wp2_with fail
    refine (QC.out w4 hb04).mono ?_
    rintro e w5 ⟨rfl, hb5⟩
    have hb05 := ext_trans hb04 hb5
    have r25 := rd2_ext r24 hb5
    have r35 := rdr_ext r34 hb5
    clear hb5 hb04 r24 r34 QC
    go_wp2_with fail
    refine (Q1.out w5 hb05).mono ?_
    rintro e w6 ⟨rfl, hb6⟩
    have hb06 := ext_trans hb05 hb6
    have r26 := rd2_ext r25 hb6
    have r36 := rdr_ext r35 hb6
    clear hb6 hb05 r25 r35 Q1
    go_wp2_with fail
    refine (Q2.out w6 hb06).mono ?_
    rintro e w7 ⟨v7, rfl, m7, hb7⟩
    rw [HCQ.out] at m7
    obtain ⟨g7, c7, rfl, hg7, hg7', hc7, hm7⟩ := m7.form (by rw [hCL]; exact k1)
    rw [hCL] at m7 hc7 ⊢
    have R2 := Lib.hid r26
    have R3 := Lib.hid r36
    have HB6 := Lib.hid hb06
    have HB7 := Lib.hid hb7
    have HM7 := Lib.hid m7
    clear hb7 hb06 r26 r36 Q2 m7
    go_wp2_with fail
    go_loopw [79] (fun yv wr => ∃ (y : Nat) (N : List (List Int)), y ≤ k ∧ yv = .int .i64 y ∧ Mat wr w6.heap.size 35 3 (.slice (some ⟨g7, 0, none⟩) k c7) N ∧ NegI C N k r y 0 ∧ Below w6.heap.size w6 wr) (fun yv _ => k - (intOf yv).toNat)
    case atStart => exact ⟨0, C, Nat.zero_le _, rfl, HM7.out, HC0.out, HB7.out⟩
    case round =>
      obtain ⟨y, M0, hy, rfl, hmat, hneg, hbel⟩ := hrel
      by_cases hyk : y < k
      · obtain ⟨u, hcu, _, hou⟩ := hmat.row hneg.len hyk
        rw [hneg.rows y hyk] at hou
        obtain ⟨g', cap', rfl, _, _, hcap1, hcap2, _⟩ := own_form hou (show 0 < r from HP.out.r1)
        have HMAT := Lib.hid hmat
        have HNEG := Lib.hid hneg
        have HBEL := Lib.hid hbel
        have hcu2 : wr.cell? ⟨g7, 0 + y, none⟩ = some (.slice (some ⟨g', 0, none⟩) r cap') := by rw [Nat.zero_add]; exact hcu
        have HCU := Lib.hid hcu
        have d1 : decide ((y : Int) < (k : Int)) = true := decide_eq_true (by omega)
        clear hmat hneg hbel hou
        obtain ⟨wo, rfl⟩ : ∃ wo, wo = wr := ⟨_, rfl⟩
        go_wp2_with fail
        go_loopw [85] (fun xv wr => ∃ (x : Nat) (N : List (List Int)), x ≤ r ∧ xv = .int .i64 x ∧ Mat wr w6.heap.size 35 3 (.slice (some ⟨g7, 0, none⟩) k c7) N ∧ NegI C N k r y x ∧ wr.cell? ⟨g7, y, none⟩ = some (.slice (some ⟨g', 0, none⟩) r cap') ∧ Below w6.heap.size w6 wr) (fun xv _ => r - (intOf xv).toNat)
        case atStart => exact ⟨0, M0, Nat.zero_le _, rfl, HMAT.out, HNEG.out, HCU.out, HBEL.out⟩
        case round =>
          obtain ⟨x, M1, hx, rfl, hmat, hneg, hcell, hbel⟩ := hrel
          clear HMAT HNEG HBEL HCU hcu hcu2
          by_cases hxr : x < r
          · obtain ⟨u, hcu, _, hou⟩ := hmat.row hneg.len hyk
            rw [hcell] at hcu
            injection hcu with hcu
            subst hcu
            have hlen := hneg.rows y hyk
            rw [hlen] at hou
            have ck := own_cell hou x hxr
            have fk := hou.frozenAt x
            rw [hneg.now hyk hxr] at ck
            have hbd := HCE.out y x hyk hxr
            have hg'b := hou.lt g' rfl
            obtain ⟨m2, gr⟩ := hmat.setCell hneg.len hyk (by decide) hlen hcell x (-ent C y x)
            have hne : g' ≠ g7 := by
              obtain ⟨vs, k1', _, _⟩ := hmat
              rcases own_far k1' hou (by decide) with q | q
              · cases q
              · intro e; exact q (by rw [e]; rfl)
            have hns := hneg.step hyk hxr
            have hbel2 := hbel.grown gr hbel.size (fun z hz => by injection hz with hz; subst hz; exact hg'b.1)
            have hcell2 : (wr.setCell ⟨g', x, none⟩ (.int .i64 (-ent C y x))).cell? ⟨g7, y, none⟩ = some (.slice (some ⟨g', 0, none⟩) r cap') := by
              rw [gr.cell_far _ (by have := hbel.size; have := HB7.out.size; obtain ⟨vs, k1', _, _⟩ := hmat; exact (k1'.lt g7 rfl).2) (by intro e; injection e with e; exact hne e.symm)]
              exact hcell
            have HNS := Lib.hid hns
            have HM2 := Lib.hid m2
            have HB2 := Lib.hid hbel2
            have HC2 := Lib.hid hcell2
            clear hmat hneg hcell hbel hou hlen m2 gr hns hbel2 hcell2 hg'b
            generalize ent C y x = z at *
            go_wp2
            go_roundw
            case rel => exact ⟨x + 1, _, by omega, by go_num, HM2.out, HNS.out, HC2.out, HB2.out⟩
            case measure => simp [intOf]; omega
          · obtain rfl : x = r := by omega
            have hnx := hneg.next
            clear hneg
            go_wp2
            go_roundw
            case rel => exact ⟨y + 1, M1, by omega, by go_num, hmat, hnx, hbel⟩
            case measure => simp [intOf]; omega
      · obtain rfl : y = k := by omega
        have he := HDN.out M0 hneg
        subst he
        have RC := hmat.rd hTL
        have RR2 := rd2_ext R2.out hbel
        have RR3 := rdr_ext R3.out hbel
        have hb0 := ext_trans HB6.out hbel
        clear hmat hneg HM7 HC0 HDN HCE HCR HB7 R2 R3 hbel
        go_wp2_with fail
        refine (Q3.out wr hb0).mono ?_
        rintro e w8 ⟨v8, rfl, o8, hb8⟩
        rw [HN.out] at o8
        obtain ⟨a8, c8, rfl, _, _⟩ := own2_slice o8
        have q8 := Rd2.of_own o8
        have q2 := rd2_ext RR2 hb8
        have q3 := rdr_ext RR3 hb8
        have q4 := rdr_ext RC hb8
        have hb08 := ext_trans hb0 hb8
        clear o8 RR2 RR3 RC hb8 hb0 Q3
        have QE := Lib.hid (equal2_any pts pts a2 a8 N c2 N c8 w8 w8.heap.size q2 q8 (by omega) (by omega))
        rw [decide_eq_true rfl] at QE
        go_wp2_with fail
        refine QE.out.mono ?_
        rintro e w9 ⟨rfl, d9, rfl⟩
        have hb9 : Below w8.heap.size w8 (w8.drewN d9) := below_drewN (Below.refl _ w8) d9
        have q39 := rdr_ext q3 hb9
        have q49 := rdr_ext q4 hb9
        have hb09 := ext_trans hb08 hb9
        clear QE q2 q8 q3 q4 hb9 hb08
        generalize w8.drewN d9 = w9 at *
        go_wp2_with fail
        refine (rows_rd M0 a3 (some ⟨g7, 0, none⟩) y c3 c7 w9 w9.heap.size (by omega) HTR.out q39 q49).mono ?_
        rintro e w10 ⟨rfl, d10, rfl⟩
        have hbf := below_drewN hb09 d10
        go_wp2
        go_ret
        exact ⟨by first | rfl | simp, hbf⟩
  · have QB := Lib.hid (sBE a L.length c L w HT.out h0)
    have QP : Hid (∀ W, Below w.heap.size w W → Calls Try.prog 8 #[.slice a L.length c] W (ErrOut (pchk L) W)) := fun W hW => sPE a L.length c L W (HT.out.below hW) h0
    have QT : Hid (∀ W, Below w.heap.size w W → Calls Try.prog 9 #[.slice a L.length c] W (ErrNil (pchk L) W)) := fun W hW => sTE a L.length c L W (HT.out.below hW) h0
    have hne : (pchk L != 0) = true := by simpa using h0
    clear h0 hr hall h24 sC sBE sB sPE sP sTE sT
    generalize pchk L = r at *
    go_enter Try.func3, Try.ntmps3
    go_wp2_with fail
    refine QB.out.mono ?_
    rintro e w1 ⟨rfl, hb1⟩
    clear QB
    go_wp2_with fail
    refine (QP.out w1 hb1).mono ?_
    rintro e w2 ⟨a2, c2, rfl, hb2⟩
    have hb02 := ext_trans hb1 hb2
    clear hb1 hb2 QP
    go_wp2_with fail
    refine (QT.out w2 hb02).mono ?_
    rintro e w3 ⟨rfl, hb3⟩
    have hb03 := ext_trans hb02 hb3
    clear hb3 hb02 QT
    go_wp2_with fail
    refine (QR.out w3 hb03).mono ?_
    rintro e w4 ⟨rfl, hb4⟩
    have hb04 := ext_trans hb03 hb4
    clear hb4 hb03 QR
    go_wp2_with fail
    refine (QC.out w4 hb04).mono ?_
    rintro e w5 ⟨rfl, hb5⟩
    have hb05 := ext_trans hb04 hb5
    clear hb5 hb04 QC
    have hrr : (r == r) = true := by simp
    have hrn : (r != r) = false := by simp
    go_wp2
    go_ret
    exact ⟨by first | rfl | simp, hb05⟩
end Go.Proofs.Ytcecpcibfbfanaa

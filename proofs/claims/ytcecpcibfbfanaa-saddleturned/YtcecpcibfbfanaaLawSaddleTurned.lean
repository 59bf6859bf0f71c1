/-
  plumekeep.SaddleTurned returns true, for every slice of slices of ints, if saddle.Bounds, saddle.Points and saddle.Turned keep their contracts; nothing that was there is written.
-/
import Derived.Test.YtcecpcibfbfanaaLawSaddleBounds
import Derived.Test.YtcecpcibfbfanaaCPairHas
import Derived.Test.YtcecpcibfbfanaaCRows
namespace Go.Proofs.Ytcecpcibfbfanaa
open Go.RowKit Fm
set_option linter.unusedVariables false

set_option maxHeartbeats 4000000 in
set_option maxRecDepth 100000 in
theorem saddleTurned_is (sB : SBounds) (sP : SPoints) (sTE : STurnedE) (sT : STurned) (v : Value) (L : List (List Int)) {w : World} (f : IsRows w v L) :
    Calls Try.prog 6 #[v] w fun e w' => e = .returned (.bool true) ∧ Below w.heap.size w w' := by
  obtain ⟨a, c, rfl, hr, hall, hlc, _, hcm, h24⟩ := f
  have W0 := Lib.hid (saddles_any sB sP w)
  have HT := Lib.hid (tabIn_rowsB hr h24 hall)
  have SB : Hid SBounds := sB
  have SP : Hid SPoints := sP
  have STE : Hid STurnedE := sTE
  have ST : Hid STurned := sT
  have HRR := Lib.hid hr
  clear sB sP sTE sT hr hall h24
  go_enter Try.func6, Try.ntmps6
  go_wp2_with fail
  refine W0.out.mono ?_
  rintro e w1 ⟨rfl, hb1⟩
  clear W0
  by_cases h0 : pchk L = 0
  · have p := pchk_ok h0
    obtain ⟨k, hk⟩ : ∃ k, (L.getD 0 []).length = k := ⟨_, rfl⟩
    obtain ⟨r, hrl⟩ : ∃ r, L.length = r := ⟨_, rfl⟩
    rw [hk, hrl] at p
    have HP := Lib.hid p
    have HPT := Lib.hid (turn_pay p)
    rw [hrl] at HT HRR hlc ⊢
    have r6 := p.r6
    have k6 := p.k6
    have QT := Lib.hid (ST.out r k a r c L w1 (HT.out.below hb1) p)
    have QB1 : Hid (∀ W, Below w.heap.size w W → Calls Try.prog 7 #[.slice a r c] W fun e w' => e = .returned (.tuple #[.int .i64 (loB L), .int .i64 (hiB k L), .int .i64 0]) ∧ Below W.heap.size W w') := fun W hW => SB.out r k a r c L W (HT.out.below hW) p
    have QP1 : Hid (∀ W, Below w.heap.size w W → Calls Try.prog 8 #[.slice a r c] W (PairsOut (ptA L k r) W)) := fun W hW => SP.out r k a r c L W (HT.out.below hW) p
    have hl36 := pt36 p
    have hTT := turn_turn p
    have hTL : (turnT k L).length = k := turnT_len k L
    have hUL : (turnT r (turnT k L)).length = r := turnT_len r _
    have QB2 : Hid (∀ (W : World) a2 c2, RdR W W.heap.size a2 k (turnT k L) → Calls Try.prog 7 #[.slice a2 k c2] W fun e w' => e = .returned (.tuple #[.int .i64 (-hiB k L), .int .i64 (-loB L), .int .i64 0]) ∧ Below W.heap.size W w') := fun W a2 c2 hR => by
      have := SB.out k r a2 k c2 (turnT k L) W (tabIn_pay hR HPT.out) HPT.out
      rw [turn_lo p, turn_hi p] at this
      exact this
    have QP2 : Hid (∀ (W : World) a2 c2, RdR W W.heap.size a2 k (turnT k L) → Calls Try.prog 8 #[.slice a2 k c2] W (PairsOut (ptA (turnT k L) r k) W)) := fun W a2 c2 hR => SP.out k r a2 k c2 (turnT k L) W (tabIn_pay hR HPT.out) HPT.out
    have QT2 : Hid (∀ (W : World) a2 c2, RdR W W.heap.size a2 k (turnT k L) → Calls Try.prog 9 #[.slice a2 k c2] W (MatOwn L W)) := fun W a2 c2 hR => by
      have := ST.out k r a2 k c2 (turnT k L) W (tabIn_pay hR HPT.out) HPT.out
      rw [hTT] at this
      exact this
    have HLEN := turn_ptlen p
    have HMEM : Hid (∀ j, j < (ptA L k r).length → ∃ x y : Nat, ((y : Int), (x : Int)) ∈ ptA (turnT k L) r k ∧ (ptA L k r).getD j (0, 0) = ((x : Int), (y : Int))) := fun j hj => by
      have hm : (ptA L k r).getD j (0, 0) ∈ ptA L k r := by
        rw [List.getD_eq_getElem?_getD, List.getElem?_eq_getElem hj]; exact List.getElem_mem hj
      obtain ⟨x, y, h1, h2, h3, h4⟩ := (mem_ptA r).1 hm
      exact ⟨x, y, (turn_mem p x y).2 (by rw [← h4]; exact hm), h4⟩
    have hlo := lo_bd p
    have hhi := hi_bd p
    have HLR : Hid (∀ l ∈ L, l.length ≤ 1000000) := fun l hl => by have := p.rows l hl; have := p.k6; omega
    have HLL := Lib.hid p.len
    clear h0 p hk hrl hTT hUL HPT HP
    generalize turnT k L = T at *
    generalize ptA T r k = ptt at *
    generalize ptA L k r = pts at *
    generalize loB L = lo at *
    generalize hiB k L = hi at *
    obtain ⟨N, hN⟩ : ∃ N, pts.length = N := ⟨_, rfl⟩
    rw [hN] at HLEN hl36 HMEM
    have HN := Lib.hid hN
    have HNT := Lib.hid HLEN
    clear hN HLEN
    go_wp2_with fail
    refine QT.out.mono ?_
    rintro e w2 h
    obtain ⟨a2, c2, rfl, hc2, hm2, r2, hb2⟩ := h.mat
    rw [hTL] at r2 hc2 ⊢
    have hb02 := ext_trans hb1 hb2
    clear h hb1 hb2 QT
    go_wp2_with fail
    refine (QT2.out w2 a2 c2 r2).mono ?_
    rintro e w3 h
    obtain ⟨a3, c3, rfl, hc3, hm3, r3, hb3⟩ := h.mat
    rw [HLL.out] at r3 hc3 ⊢
    have hb03 := ext_trans hb02 hb3
    have r23 := rdr_ext r2 hb3
    clear h hb3 hb02 r2 QT2
    go_wp2_with fail
    refine (QB1.out w3 hb03).mono ?_
    rintro e w4 ⟨rfl, hb4⟩
    have hb04 := ext_trans hb03 hb4
    have r24 := rdr_ext r23 hb4
    have r34 := rdr_ext r3 hb4
    clear hb4 hb03 r23 r3 QB1
    go_wp2_with fail
    refine (QB2.out w4 a2 c2 r24).mono ?_
    rintro e w5 ⟨rfl, hb5⟩
    have hb05 := ext_trans hb04 hb5
    have r25 := rdr_ext r24 hb5
    have r35 := rdr_ext r34 hb5
    clear hb5 hb04 r24 r34 QB2
    go_wp2_with fail
    refine (QP1.out w5 hb05).mono ?_
    rintro e w6 ⟨a6, c6, rfl, hc6, hm6, r6', hb6⟩
    rw [HN.out] at r6' hc6 ⊢
    have hb06 := ext_trans hb05 hb6
    have r26 := rdr_ext r25 hb6
    have r36 := rdr_ext r35 hb6
    clear hb6 hb05 r25 r35 QP1
    go_wp2_with fail
    refine (QP2.out w6 a2 c2 r26).mono ?_
    rintro e w7 ⟨a7, c7, rfl, hc7, hm7, r7, hb7⟩
    rw [HNT.out] at r7 hc7 ⊢
    have hb07 := ext_trans hb06 hb7
    have r37 := rdr_ext r36 hb7
    have r67 := rd2_ext r6' hb7
    clear hb7 hb06 r26 r36 r6' QP2
    go_wp2_with fail
    refine (good_zero w7.heap.size 0 5 5 _ (by omega) (zeros_at w7 23 5 #[.int .i64 0, .int .i64 0, .int .i64 0, .int .i64 0, .int .i64 0] rfl)).mono ?_
    rintro e w8 ⟨rfl, rfl⟩
    have b8 : Below w7.heap.size w7 (w7.alloc (.cells #[.int .i64 0, .int .i64 0, .int .i64 0, .int .i64 0, .int .i64 0] 23)) := (Below.refl _ _).alloc (Nat.le_refl _) _
    have hb08 := ext_trans hb07 b8
    have r38 := rdr_ext r37 b8
    have r68 := rd2_ext r67 b8
    have r78 := rd2_ext r7 b8
    have r08 := rdr_ext HRR.out hb08
    clear b8 hb07 r37 r67 r7
    generalize w7.alloc (.cells #[.int .i64 0, .int .i64 0, .int .i64 0, .int .i64 0, .int .i64 0] 23) = w8 at *
    go_wp2_with fail
    refine (equalFunc_rd L a3 a r c3 c w8 w8.heap.size (by omega) HLR.out r38 r08).mono ?_
    rintro e w9 ⟨rfl, d9, rfl⟩
    have hb9 : Below w8.heap.size w8 (w8.drewN d9) := below_drewN (Below.refl _ w8) d9
    have hb09 := ext_trans hb08 hb9
    have R6 := Lib.hid (rd2_ext r68 hb9)
    have R7 := Lib.hid (rd2_ext r78 hb9)
    have d1 : (-hi != -hi) = false := by simp
    have d2 : (-lo != -lo) = false := by simp
    have d3 : ((N : Int) != (N : Int)) = false := by simp
    clear r38 r08 r68 r78 hb9 hb08 HRR HT HLL HLR SB SP STE ST
    generalize w8.drewN d9 = w9 at *
    go_wp2_with fail
    go_loopw [93] (fun jv wr => ∃ j : Nat, j ≤ N ∧ jv = .int .i64 j ∧ Below w9.heap.size w9 wr) (fun jv _ => N - (intOf jv).toNat)
    case atStart => exact ⟨0, Nat.zero_le _, rfl, Below.refl _ w9⟩
    case round =>
      obtain ⟨j, hj, rfl, hbel⟩ := hrel
      by_cases hjN : j < N
      · obtain ⟨x, y, hmem, hxy⟩ := HMEM.out j hjN
        have HM := Lib.hid hmem
        obtain ⟨b3, o3, rfl, hb3, hc1, hc2⟩ := R6.out.at_ hjN
        rw [hxy] at hc1 hc2
        dsimp only at hc1 hc2
        have q1 : wr.cell? ⟨b3, o3 + j * 2, none⟩ = some (.int .i64 (x : Int)) := (hbel.cell (by exact hb3)).trans hc1
        have q2 : wr.cell? ⟨b3, o3 + j * 2 + 1, none⟩ = some (.int .i64 (y : Int)) := (hbel.cell (by exact hb3)).trans hc2
        have hbx : Below wr.heap.size wr (wr.alloc (.cells #[.int .i64 x, .int .i64 y] 37)) := (Below.refl _ wr).alloc (Nat.le_refl _) _
        obtain ⟨u3, u4⟩ := box2 wr 37 (x : Int) (y : Int)
        have hbel2 := hbel.trans (hbx.mono hbel.size)
        have QH := Lib.hid (has2_any ptt a7 N c7 (y : Int) (x : Int) (wr.alloc (.cells #[.int .i64 x, .int .i64 y] 37)) (rd2_ext R7.out hbel2) (by omega))
        rw [decide_eq_true HM.out] at QH
        have hz2 := hbel2.size
        clear hc1 hc2 hxy hmem hbx hbel
        go_wp2_with fail
        refine QH.out.mono ?_
        rintro e w10 ⟨rfl, hb10⟩
        have hbn := hbel2.trans (hb10.mono hz2)
        clear QH hb10 hbel2 u3 u4 q1 q2
        go_wp2
        go_roundw
        case rel => exact ⟨j + 1, by omega, by go_num, hbn⟩
        case measure => simp [intOf]; omega
      · obtain rfl : j = N := by omega
        have hbf := ext_trans hb09 hbel
        go_wp2
        go_ret
        exact ⟨rfl, hbf⟩
  · have QT := Lib.hid (STE.out a L.length c L w1 (HT.out.below hb1) h0)
    have hne : (pchk L != 0) = true := by simpa using h0
    clear h0
    generalize pchk L = r at *
    go_wp2_with fail
    refine QT.out.mono ?_
    rintro e w2 ⟨rfl, hb2⟩
    have hb02 := ext_trans hb1 hb2
    clear QT
    go_wp2
    go_ret
    exact ⟨rfl, hb02⟩
end Go.Proofs.Ytcecpcibfbfanaa

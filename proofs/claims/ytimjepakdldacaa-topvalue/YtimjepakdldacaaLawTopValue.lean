/-
  plumetop.TopValue returns true, for every slice of slices of ints, if packages mixed, saddle, equil and worth keep their contracts; nothing that was there is written.
-/
import Derived.Test.YtimjepakdldacaaMixIn
import Derived.Test.YtimjepakdldacaaValueMath
import Derived.Test.YtimjepakdldacaaNegT
import Derived.Test.YtimjepakdldacaaEquilP
import Derived.Test.YtimjepakdldacaaRowsL
import Derived.Test.YtimjepakdldacaaPush1B
import Derived.Test.YtimjepakdldacaaM17
import Derived.Test.YtimjepakdldacaaCTopW
import Derived.Deep.DeepMust
import Derived.Deep.DeepCutAuto
namespace Go.Proofs.Ytimjepakdldacaa
open Go.RowKit Fm
set_option linter.unusedVariables false

set_option maxHeartbeats 4000000 in
set_option maxRecDepth 100000 in
theorem topValue_is (mE : MSolveE) (mS : MSolve) (sBE : SBoundsE) (sB : SBounds) (eR : ERest) (sS : WShare) (v : Value) (L : List (List Int)) {w : World} (f : IsRows w v L) :
    Calls Try.prog 8 #[v] w fun e w' => e = .returned (.bool true) ∧ Below w.heap.size w w' := by
  obtain ⟨a, c, rfl, hr, hall, hlc, _, hcm, h24⟩ := f
  have W0 : Hid (∀ W, Calls Try.prog 25 #[] W fun e w' => e = .returned (.bool true) ∧ Below W.heap.size W w') := fun W => works_any sS W
  have HT := Lib.hid (cut_in hr h24 hall).2
  have HR := Lib.hid (cut_in hr h24 hall).1
  have HALL : Hid (∀ l ∈ L.take (min L.length 2), (∀ x ∈ l, Ok64 x) ∧ l.length * 8 ≤ 140737488355328) := fun l hl => hall l (List.mem_of_mem_take hl)
  have hgd := ratioGuard
  have h00 : ∀ w, (Op.equalIn 10000 45 (.agg #[.int .i64 0, .int .i64 0]) (.agg #[.int .i64 0, .int .i64 0])).run Try.prog w = .ok true w := fun w => by rw [ratioIn]; rfl
  have HSL : Hid (0 < L.length → ∃ b o, a = some ⟨b, o, none⟩) := fun h => by
    obtain ⟨b, o, e, _⟩ := hr.2 h
    exact ⟨b, o, e⟩
  clear hr hall h24
  unfold maxLen at hcm
  obtain ⟨nL, hnL⟩ : ∃ nL, L.length = nL := ⟨_, rfl⟩
  rw [hnL] at HT HR hlc HSL HALL ⊢
  obtain ⟨n, hn⟩ : ∃ n, min nL 2 = n := ⟨_, rfl⟩
  rw [hn] at HT HR HALL
  generalize L.take n = M at *
  clear hnL
  go_enter Try.func8, Try.ntmps8
  go_upto_if 19 with fail
  go_cut [0] (fun mv wx => mv = .slice a n c ∧ wx = w)
  case first =>
    by_cases h2 : 2 < nL
    · obtain rfl : n = 2 := by omega
      obtain ⟨b, o, rfl⟩ := HSL.out (by omega)
      have c1 : (2 : Int) ≤ (c : Int) := by omega
      have c2 : 2 ≤ c := by omega
      clear hn
      go_wp2_with fail
      go_meet
      exact ⟨rfl, rfl⟩
    · obtain rfl : n = nL := by omega
      clear hn
      go_wp2_with fail
      go_meet
      exact ⟨rfl, rfl⟩
  case rest =>
    obtain ⟨rfl, hwc⟩ := hcut
    have hwc2 := hwc.symm
    clear hwc
    subst hwc2
    clear HSL hlc hn nL
    by_cases h0 : mxchk M = 0
    · obtain ⟨hp0, p⟩ := mxchk_ok h0
      obtain ⟨k, hk⟩ : ∃ k, (M.getD 0 []).length = k := ⟨_, rfl⟩
      rw [hk] at p
      obtain rfl : n = 2 := by have := HR.out.1; rw [← this, p.len]
      have QS := Lib.hid (mS k a 2 c M w HT.out p)
      have QB : Hid (∀ W, Below w.heap.size w W → Calls Try.prog 24 #[.slice a 2 c] W fun e w' => e = .returned (.tuple #[.int .i64 (loB M), .int .i64 (hiB k M), .int .i64 0]) ∧ Below W.heap.size W w') := fun W hW => sB 2 k a 2 c M W (HT.out.below hW) p
      have HP := Lib.hid p
      have QE : Hid (∀ W al cl, Below w.heap.size w W → TabIn W al 2 (negT M) → Calls Try.prog 9 #[.slice a 2 c, .slice al 2 cl] W (PairsOut (ptA M k 2) W)) := fun W al cl hW hT2 => by
        have := eR 2 k a 2 c M al 2 cl (negT M) W (HT.out.below hW) hT2 ⟨HP.out, neg_pay HP.out⟩
        rwa [neg_pts HP.out] at this
      unfold PairsOut at QE
      clear h0 hk mE mS sBE sB eR sS hp0 HT
      go_wp2_with fail
      refine QS.out.mono ?_
      rintro e w3 ⟨P, Q, V, W, hs, rfl, hb3⟩
      obtain ⟨u1, u2, u3, u4, hsz, hbx⟩ := boxes2 w3 45 P Q V W
      have hb04 := ext_trans hb3 hbx
      have HV := Lib.hid (value_points hs p)
      have l3 := lo_bd p
      have l5 := sol_bd hs p
      have w1' := hs.w1
      have wb' := hs.wb
      have h36 := pt36 p
      have hNK : ∀ x, x < 2 → (M.getD x []).length = k := fun x hx => p.row hx
      have HNK := Lib.hid hNK
      have hk6 := p.k6
      have hk1 := p.k1
      have HLM := Lib.hid p.len
      clear QS hb3 hbx hs u1 u2 hNK
      go_wp2_with fail
      generalize (w3.alloc (.cells #[.int .i64 P, .int .i64 Q] 45)).alloc (.cells #[.int .i64 V, .int .i64 W] 45) = w4 at *
      refine (QB.out w4 hb04).mono ?_
      rintro e w5 ⟨rfl, hb5⟩
      have hb05 := ext_trans hb04 hb5
      have u3' := (hb5.cell (p := ⟨w3.heap.size + 1, 0, none⟩) hsz).trans u3
      have u4' := (hb5.cell (p := ⟨w3.heap.size + 1, 1, none⟩) hsz).trans u4
      have hsz5 : w3.heap.size + 1 < w5.heap.size := Nat.lt_of_lt_of_le hsz hb5.size
      clear u3 u4 hb5 QB hb04 hsz
      generalize w3.heap.size + 1 = g at *
      go_wp2_with fail
      refine (W0.out w5).mono ?_
      rintro e w6 ⟨rfl, hb6⟩
      have hb06 := ext_trans hb05 hb6
      have v3 := (hb6.cell (p := ⟨g, 0, none⟩) hsz5).trans u3'
      have v4 := (hb6.cell (p := ⟨g, 1, none⟩) hsz5).trans u4'
      have hsz6 : g < w6.heap.size := Nat.lt_of_lt_of_le hsz5 hb6.size
      have z06 := hb06.size
      have H06 := Lib.hid hb06
      have HV3 := Lib.hid v3
      have HV4 := Lib.hid v4
      clear hb6 hb05 u3' u4' hsz5 hb06 v3 v4 W0
      have HNX : Hid (∀ x, x < 2 → negT (M.take x) ++ [(M.getD x []).map negW] = negT (M.take (x + 1))) := fun x hx => negT_take (by rw [HLM.out]; exact hx)
      have HRX : Hid (∀ x y, y < (M.getD x []).length → ((M.getD x []).take y).map negW ++ [negW ((M.getD x []).getD y 0)] = ((M.getD x []).take (y + 1)).map negW) := fun x y hy => by
        rw [List.take_add_one, List.map_append, List.getD_eq_getElem?_getD (i := y), List.getElem?_eq_getElem hy]
        rfl
      have HOK : Hid (∀ x y, x < 2 → y < (M.getD x []).length → Ok64 ((M.getD x []).getD y 0) ∧ (M.getD x []).length * 8 ≤ 140737488355328) := fun x y hx hy => ⟨(HALL.out _ (memR (by rw [HLM.out]; exact hx))).1 _ (getD_mem _ y hy), (HALL.out _ (memR (by rw [HLM.out]; exact hx))).2⟩
      have HN0 : Hid (negT (M.take 0) = []) := rfl
      have HNE : Hid (negT (M.take 2) = negT M) := by show _ = _; rw [List.take_of_length_le (by rw [HLM.out]; exact Nat.le_refl _)]
      have HNW : Hid (∀ x, negW x = wrap64 (-x)) := fun _ => rfl
      have HL8 : Hid (∀ l ∈ negT M, l.length ≤ 17592186044416) := fun l hl => by
        have := (neg_pay HP.out).rows l hl
        omega
      clear HALL
      go_wp2_with fail
      go_loopw [9, 52] (fun lv iv wr => ∃ x : Nat, x ≤ 2 ∧ iv = .int .i64 x ∧ Hid (RL wr w6.heap.size lv x (negT (M.take x))) ∧ Below w6.heap.size w6 wr) (fun _ iv _ => 2 - (intOf iv).toNat)
      case atStart => exact ⟨0, Nat.zero_le _, rfl, (show Hid _ from by rw [HN0.out]; exact RL.nil_ _ _), Below.refl _ w6⟩
      case round =>
        obtain ⟨x, hx, rfl, RM, hbl⟩ := hrel
        by_cases hxN : x < 2
        · obtain ⟨b, o, a', c', rfl, hbb, hrow, hle, _, hcm', hrd⟩ := HR.out.at_ hxN
          have hbF := H06.out.trans (hbl.mono z06)
          have r1 := (hbF.cell (p := ⟨b, o + x, none⟩) (by exact hbb)).trans hrow
          have HRD := Lib.hid (hrd.below hbF (Nat.le_refl _))
          have HRXx := Lib.hid (fun y hy => HRX.out x y hy)
          have HOKx := Lib.hid (fun y hy => HOK.out x y hxN hy)
          have HNXx := Lib.hid (HNX.out x hxN)
          have hz2 := hbl.size
          have hzF := hbF.size
          have d1 : decide ((x : Int) < (2 : Int)) = true := decide_eq_true (by omega)
          have HBF := Lib.hid hbF
          obtain ⟨wo, rfl⟩ : ∃ wo, wo = wr := ⟨_, rfl⟩
          clear hrow hrd hbF
          generalize M.getD x [] = row at *
          go_wp2_with fail
          go_loopw [12, 58] (fun rv iv wr => ∃ y : Nat, y ≤ row.length ∧ iv = .int .i64 y ∧ wr.ownsRow wo.heap.size 3 1 rv y (I ((row.take y).map negW)) ∧ Below wo.heap.size wo wr) (fun _ iv _ => row.length - (intOf iv).toNat)
          case atStart => exact ⟨0, Nat.zero_le _, rfl, ⟨rfl, .inl ⟨rfl, rfl⟩⟩, Below.refl _ wo⟩
          case round =>
            obtain ⟨y, hy, rfl, own, hb5⟩ := hrel
            have hz := hb5.size
            by_cases hyk : y < row.length
            · obtain ⟨b', o', rfl, hb', hcell⟩ := HRD.out.at_ hyk
              have r2 := (hb5.cell (p := ⟨b', o' + y, none⟩) (by show b' < _; omega)).trans hcell
              obtain ⟨ok1, ok2⟩ := HOKx.out y hyk
              have HN := Lib.hid (HRXx.out y hyk)
              have hnw := HNW.out (row.getD y 0)
              rw [hnw] at HN
              clear hnw hcell ok1
              generalize row.getD y 0 = z at *
              generalize hq : (row.take y).map negW = q at *
              clear hq
              go_wp2_with (at_builtin; go_must (refine push1B rfl _ _ rfl wr wo.heap.size _ y q (wrap64 (-z)) rfl rfl (by exact own) hz (by omega) ?_))
              intro g6 cap6 w6 own6 hgr _ _
              have hb6 := hb5.grown hgr hz (fun y hy => (own.lt _ hy).1)
              rw [HN.out] at own6
              clear own hgr hb5 r2
              go_wp2
              go_roundw
              case rel => exact ⟨y + 1, by omega, by go_num, own6, hb6⟩
              case measure => simp [intOf]; omega
            · obtain rfl : y = row.length := by omega
              rw [List.take_of_length_le (Nat.le_refl _)] at own
              obtain ⟨vs, v1, v2, v3⟩ := RM.out.below hb5
              have HOWN := Lib.hid own
              obtain ⟨ra, rc, rfl, _, _⟩ := own_slice own
              have V23 := Lib.hid (show _ ∧ _ from ⟨v2, v3⟩)
              clear v2 v3 RM own r1
              go_wp2_with (at_builtin; go_must (refine pushSB rfl _ _ rfl wr w6.heap.size _ x vs ra row.length rc rfl rfl (by exact v1) (by omega) (by omega) ?_))
              intro g7 cap7 w7 hv7 hg7 hd7 hl7
              have o1 : wr.ownsRow w6.heap.size 3 1 (.slice ra row.length rc) (row.map negW).length (I (row.map negW)) := by rw [List.length_map]; exact own_mono HOWN.out (by omega)
              have RM7 := RL.push v1 V23.out.1 V23.out.2 o1 hg7 hv7
              rw [HNXx.out] at RM7
              have hb7 : Below w6.heap.size w6 w7 := (hbl.trans (hb5.mono hz2)).grown hg7 (by omega) (fun z hz2 => (v1.lt _ hz2).1)
              have HRM7 := Lib.hid RM7
              clear v1 hv7 hg7 hd7 RM7 o1 HOWN V23 hb5 hbl
              go_wp2
              go_roundw
              case rel => exact ⟨x + 1, by omega, by go_num, HRM7, hb7⟩
              case measure => simp [intOf]; omega
        · obtain rfl : x = 2 := by omega
          rw [HNE.out] at RM
          obtain ⟨vs, v1, v2, v3⟩ := RM.out
          obtain ⟨al, cl, rfl, hcl, _, _, _⟩ := own_sliceV v1
          have hbF := H06.out.trans (hbl.mono z06)
          have hT2 : TabIn wr al 2 (negT M) := ⟨wr.heap.size, Nat.le_refl _, RM.out.rdr, by omega, HL8.out⟩
          have Q1 := Lib.hid (QE.out wr al cl hbF hT2)
          have q3 := (hbl.cell (p := ⟨g, 0, none⟩) hsz6).trans HV3.out
          have q4 := (hbl.cell (p := ⟨g, 1, none⟩) hsz6).trans HV4.out
          have hszr : g < wr.heap.size := Nat.lt_of_lt_of_le hsz6 hbl.size
          clear v1 v2 v3 RM H06 hbl HRX HOK HNX HN0 HNE HR hT2 QE HV3 HV4
          obtain ⟨X, hX⟩ : ∃ X, loB M * W = X := ⟨_, rfl⟩
          have bX : -4000000 ≤ X ∧ X ≤ 4000000 := by
            have h5 : -1000 * W ≤ loB M * W := Int.mul_le_mul_of_nonneg_right l3.1 (by omega)
            have h6 : loB M * W ≤ 1000 * W := Int.mul_le_mul_of_nonneg_right l3.2 (by omega)
            omega
          rw [hX] at HV
          obtain ⟨bX1, bX2⟩ := bX
          generalize loB M = lo at *
          generalize ptA M k 2 = ps at *
          go_wp2_with fail
          refine Q1.out.mono ?_
          rintro e w8 ⟨a5, c5, rfl, _, _, r5, hb5⟩
          have q3' := (hb5.cell (p := ⟨g, 0, none⟩) hszr).trans q3
          have q4' := (hb5.cell (p := ⟨g, 1, none⟩) hszr).trans q4
          have hbG := ext_trans hbF hb5
          clear Q1 r5 hb5 q3 q4 hbF
          by_cases hps : ps.length = 0
          · have d1 : decide (X < V) = true := decide_eq_true (HV.out.2 hps)
            have d2 : ((ps.length : Int) == 0) = true := by simp [hps]
            go_wp2
            go_ret
            exact ⟨by first | rfl | simp, hbG⟩
          · have d1 : decide (X < V) = false := decide_eq_false (fun h => hps (HV.out.1 h))
            have d2 : ((ps.length : Int) == 0) = false := beq_eq_false_iff_ne.2 (by omega)
            go_wp2
            go_ret
            exact ⟨by first | rfl | simp, hbG⟩
    · have QS := Lib.hid (mE a n c M w HT.out h0)
      have hne : (mxchk M != 0) = true := by simpa using h0
      have QB : Hid (∀ W, Below w.heap.size w W → Calls Try.prog 24 #[.slice a n c] W fun e w' => ∃ x y z : Int, e = .returned (.tuple #[.int .i64 x, .int .i64 y, .int .i64 z]) ∧ Below W.heap.size W w') := fun W hW => by
        by_cases hp : pchk M = 0
        · have p := pchk_ok hp
          exact (sB _ _ a n c M W (HT.out.below hW) p).mono fun e w' ⟨h1, h2⟩ => ⟨_, _, _, h1, h2⟩
        · exact (sBE a n c M W (HT.out.below hW) hp).mono fun e w' ⟨h1, h2⟩ => ⟨_, _, _, h1, h2⟩
      clear h0 mE mS sBE sB
      generalize mxchk M = r at *
      go_wp2_with fail
      refine QS.out.mono ?_
      rintro e w3 ⟨rfl, hb3⟩
      obtain ⟨u1, u2, u3, u4, hsz, hbx⟩ := boxes2 w3 45 0 0 0 0
      have hb04 := ext_trans hb3 hbx
      clear QS hb3 hbx u1 u2
      go_wp2_with fail
      generalize (w3.alloc (.cells #[.int .i64 0, .int .i64 0] 45)).alloc (.cells #[.int .i64 0, .int .i64 0] 45) = w4 at *
      refine (QB.out w4 hb04).mono ?_
      rintro e w5 ⟨x, y, z, rfl, hb5⟩
      have hb05 := ext_trans hb04 hb5
      have u3' := (hb5.cell (p := ⟨w3.heap.size + 1, 0, none⟩) hsz).trans u3
      have u4' := (hb5.cell (p := ⟨w3.heap.size + 1, 1, none⟩) hsz).trans u4
      have hsz5 : w3.heap.size + 1 < w5.heap.size := Nat.lt_of_lt_of_le hsz hb5.size
      clear u3 u4 hb5 QB hb04 hsz HT
      generalize w3.heap.size + 1 = g at *
      go_wp2_with fail
      refine (W0.out w5).mono ?_
      rintro e w6 ⟨rfl, hb6⟩
      have hb06 := ext_trans hb05 hb6
      have v3 := (hb6.cell (p := ⟨g, 0, none⟩) hsz5).trans u3'
      have v4 := (hb6.cell (p := ⟨g, 1, none⟩) hsz5).trans u4'
      have hsz6 : g < w6.heap.size := Nat.lt_of_lt_of_le hsz5 hb6.size
      clear hb6 hb05 u3' u4' hsz5
      go_wp2_with fail
      refine (W0.out w6).mono ?_
      rintro e w7 ⟨rfl, hb7⟩
      have hb07 := ext_trans hb06 hb7
      have t3 := (hb7.cell (p := ⟨g, 0, none⟩) hsz6).trans v3
      have t4 := (hb7.cell (p := ⟨g, 1, none⟩) hsz6).trans v4
      clear hb7 hb06 v3 v4 W0
      go_wp2
      go_ret
      exact ⟨by first | rfl | simp, hb07⟩
end Go.Proofs.Ytimjepakdldacaa

/-
  plumekeep.EquilZero returns true, for every slice of slices of ints, if packages equil and saddle keep their contracts; nothing that was there is written.
-/
import Derived.Test.YtimjepakdldacaaCEquils
import Derived.Test.YtimjepakdldacaaNegT
import Derived.Test.YtimjepakdldacaaRowsL
import Derived.Test.YtimjepakdldacaaPush1B
import Derived.Test.YtimjepakdldacaaPushS
import Derived.Test.YtimjepakdldacaaLawEquilTeam
import Derived.Deep.DeepMust
namespace Go.Proofs.Ytimjepakdldacaa
open Go.RowKit Fm
set_option linter.unusedVariables false

set_option maxHeartbeats 4000000 in
set_option maxRecDepth 100000 in
theorem equilZero_is (eRE : ERestE) (eR : ERest) (eL : ELeft) (sB : SBounds) (sPE : SPointsE) (sP : SPoints) (v : Value) (L : List (List Int)) {w : World} (f : IsRows w v L) :
    Calls Try.prog 5 #[v] w fun e w' => e = .returned (.bool true) ∧ Below w.heap.size w w' := by
  obtain ⟨a, c, rfl, hr, hall, hlc, _, hcm, h24⟩ := f
  have W0 := Lib.hid (equils_any eR eL w)
  have W1 : Hid (∀ W, Calls Try.prog 19 #[] W fun e w' => e = .returned (.bool true) ∧ Below W.heap.size W w') := fun W => saddles_any sB sP W
  have HR := Lib.hid hr
  have HNX : Hid (∀ x, x < L.length → negT (L.take x) ++ [(L.getD x []).map negW] = negT (L.take (x + 1))) := fun x hx => negT_take hx
  have HRX : Hid (∀ x y, y < (L.getD x []).length → ((L.getD x []).take y).map negW ++ [negW ((L.getD x []).getD y 0)] = ((L.getD x []).take (y + 1)).map negW) := fun x y hy => by
    rw [List.take_add_one, List.map_append, List.getD_eq_getElem?_getD (i := y), List.getElem?_eq_getElem hy]
    rfl
  have HOK : Hid (∀ x y, x < L.length → y < (L.getD x []).length → Ok64 ((L.getD x []).getD y 0) ∧ (L.getD x []).length * 8 ≤ 140737488355328) := fun x y hx hy => ⟨(hall _ (memR hx)).1 _ (getD_mem _ y hy), (hall _ (memR hx)).2⟩
  have HN0 : Hid (negT (L.take 0) = []) := rfl
  have HNE : Hid (negT (L.take L.length) = negT L) := by show _ = _; rw [List.take_of_length_le (Nat.le_refl _)]
  have HNW : Hid (∀ x, negW x = wrap64 (-x)) := fun _ => rfl
  have HL8 : Hid (∀ l ∈ negT L, l.length ≤ 17592186044416) := fun l hl => by
    unfold negT at hl
    rw [List.mem_map] at hl
    obtain ⟨q, hq, rfl⟩ := hl
    rw [List.length_map]
    have := (hall q hq).2
    omega
  obtain ⟨N, hN⟩ : ∃ N, L.length = N := ⟨_, rfl⟩
  have HLN := Lib.hid hN
  have HALL := Lib.hid hall
  rw [hN] at HR HNX HOK HNE hlc h24 ⊢
  clear hr hall hN
  go_enter Try.func5, Try.ntmps5
  go_wp2_with fail
  refine W0.out.mono ?_
  rintro e w1 ⟨rfl, hb1⟩
  clear W0
  go_wp2_with fail
  refine (W1.out w1).mono ?_
  rintro e w2 ⟨rfl, hb2⟩
  have hb02 := ext_trans hb1 hb2
  have z02 := hb02.size
  have H02 := Lib.hid hb02
  clear W1 hb1 hb2 hb02
  go_wp2_with fail
  go_loopw [3, 21] (fun lv iv wr => ∃ x : Nat, x ≤ N ∧ iv = .int .i64 x ∧ Hid (RL wr w2.heap.size lv x (negT (L.take x))) ∧ Below w2.heap.size w2 wr) (fun _ iv _ => N - (intOf iv).toNat)
  case atStart => exact ⟨0, Nat.zero_le _, rfl, (show Hid _ from by rw [HN0.out]; exact RL.nil_ _ _), Below.refl _ w2⟩
  case round =>
    obtain ⟨x, hx, rfl, RM, hbl⟩ := hrel
    by_cases hxN : x < N
    · obtain ⟨b, o, a', c', rfl, hbb, hrow, hle, _, hcm', hrd⟩ := HR.out.at_ hxN
      have hbF := H02.out.trans (hbl.mono z02)
      have r1 := (hbF.cell (p := ⟨b, o + x, none⟩) (by exact hbb)).trans hrow
      have HRD := Lib.hid (hrd.below hbF (Nat.le_refl _))
      have HRXx := Lib.hid (fun y hy => HRX.out x y hy)
      have HOKx := Lib.hid (fun y hy => HOK.out x y hxN hy)
      have HNXx := Lib.hid (HNX.out x hxN)
      have hz2 := hbl.size
      have hzF := hbF.size
      have d1 : decide ((x : Int) < (N : Int)) = true := decide_eq_true (by omega)
      have HBF := Lib.hid hbF
      obtain ⟨wo, rfl⟩ : ∃ wo, wo = wr := ⟨_, rfl⟩
      clear hrow hrd hbF
      generalize L.getD x [] = row at *
      go_wp2_with fail
      go_loopw [6, 27] (fun rv iv wr => ∃ y : Nat, y ≤ row.length ∧ iv = .int .i64 y ∧ wr.ownsRow wo.heap.size 3 1 rv y (I ((row.take y).map negW)) ∧ Below wo.heap.size wo wr) (fun _ iv _ => row.length - (intOf iv).toNat)
      case atStart => exact ⟨0, Nat.zero_le _, rfl, ⟨rfl, .inl ⟨rfl, rfl⟩⟩, Below.refl _ wo⟩
      case round =>
        obtain ⟨y, hy, rfl, own, hb5⟩ := hrel
        have hz := hb5.size
        by_cases hyk : y < row.length
        · obtain ⟨b', o', rfl, hb', hcell⟩ := HRD.out.at_ hyk
          have r2 := (hb5.cell (p := ⟨b', o' + y, none⟩) (by show b' < _; omega)).trans hcell
          obtain ⟨ok1, ok2⟩ := HOKx.out y hyk
          have HN := Lib.hid (HRXx.out y hyk)
          have hnw := HNW.out (row.getD y 0)
          rw [hnw] at HN
          clear hnw hcell ok1
          generalize row.getD y 0 = z at *
          generalize hq : (row.take y).map negW = q at *
          clear hq
          go_wp2_with (at_builtin; go_must (refine push1B rfl _ _ rfl wr wo.heap.size _ y q (wrap64 (-z)) rfl rfl (by exact own) hz (by omega) ?_))
          intro g6 cap6 w6 own6 hgr _ _
          have hb6 := hb5.grown hgr hz (fun y hy => (own.lt _ hy).1)
          rw [HN.out] at own6
          clear own hgr hb5 r2
          go_wp2
          go_roundw
          case rel => exact ⟨y + 1, by omega, by go_num, own6, hb6⟩
          case measure => simp [intOf]; omega
        · obtain rfl : y = row.length := by omega
          rw [List.take_of_length_le (Nat.le_refl _)] at own
          obtain ⟨vs, v1, v2, v3⟩ := RM.out.below hb5
          have HOWN := Lib.hid own
          obtain ⟨ra, rc, rfl, _, _⟩ := own_slice own
          have V23 := Lib.hid (show _ ∧ _ from ⟨v2, v3⟩)
          clear v2 v3 RM own r1
          go_wp2_with (at_builtin; go_must (refine pushSB rfl _ _ rfl wr w2.heap.size _ x vs ra row.length rc rfl rfl (by exact v1) (by omega) (by omega) ?_))
          intro g7 cap7 w7 hv7 hg7 hd7 hl7
          have o1 : wr.ownsRow w2.heap.size 3 1 (.slice ra row.length rc) (row.map negW).length (I (row.map negW)) := by rw [List.length_map]; exact own_mono HOWN.out (by omega)
          have RM7 := RL.push v1 V23.out.1 V23.out.2 o1 hg7 hv7
          rw [HNXx.out] at RM7
          have hb7 : Below w2.heap.size w2 w7 := (hbl.trans (hb5.mono hz2)).grown hg7 (by omega) (fun z hz2 => (v1.lt _ hz2).1)
          have HRM7 := Lib.hid RM7
          clear v1 hv7 hg7 hd7 RM7 o1 HOWN V23 hb5 hbl
          go_wp2
          go_roundw
          case rel => exact ⟨x + 1, by omega, by go_num, HRM7, hb7⟩
          case measure => simp [intOf]; omega
    · obtain rfl : x = N := by omega
      rw [HNE.out] at RM
      obtain ⟨vs, v1, v2, v3⟩ := RM.out
      obtain ⟨al, cl, rfl, hcl, _, _, _⟩ := own_sliceV v1
      have hbF := H02.out.trans (hbl.mono z02)
      have hT : TabIn wr a x L := ⟨wr.heap.size, Nat.le_refl _, rdr_ext HR.out hbF, by omega, fun l hl => by have := (HALL.out l hl).2; omega⟩
      have hT2 : TabIn wr al x (negT L) := ⟨wr.heap.size, Nat.le_refl _, RM.out.rdr, by omega, HL8.out⟩
      clear v1 v2 v3 RM H02 hbl HRX HOK HNX HN0 HNE HR
      by_cases h0 : pchk L = 0
      · have p := pchk_ok h0
        rw [HLN.out] at p
        obtain ⟨k, hk⟩ : ∃ k, (L.getD 0 []).length = k := ⟨_, rfl⟩
        rw [hk] at p
        have Q1 := Lib.hid (eR x k a x c L al x cl (negT L) wr hT hT2 ⟨p, neg_pay p⟩)
        have Q2 : Hid (∀ W, Below wr.heap.size wr W → Calls Try.prog 20 #[.slice a x c] W (PairsOut (ptA L k x) W)) := fun W hW => sP x k a x c L W (hT.below hW) p
        rw [neg_pts p] at Q1
        have h36 := pt36 p
        unfold PairsOut at Q1 Q2
        clear h0 hk p hT hT2
        generalize ptA L k x = ps at *
        go_wp2_with fail
        refine Q1.out.mono ?_
        rintro e w5 ⟨a5, c5, rfl, _, _, r5, hb5⟩
        have R5 := Lib.hid r5
        clear Q1 r5
        go_wp2_with fail
        refine (Q2.out w5 hb5).mono ?_
        rintro e w6 ⟨a6, c6, rfl, _, _, r6, hb6⟩
        have q3 := equal2_any ps ps a5 a6 ps.length c5 ps.length c6 w6 _ (rd2_ext R5.out hb6) r6 (by omega) (by omega)
        rw [decide_eq_true rfl] at q3
        have Q3 := Lib.hid q3
        have hbG := ext_trans hbF (ext_trans hb5 hb6)
        clear q3 r6 R5 Q2 hb5 hb6
        go_wp2_with fail
        refine Q3.out.mono ?_
        rintro e w7 ⟨rfl, j7, rfl⟩
        clear Q3
        go_wp2
        go_ret
        exact ⟨rfl, below_drewN hbG _⟩
      · have e1 : echk L (negT L) = pchk L := by unfold echk; rw [if_pos h0]
        have Q1 := Lib.hid (eRE a x c L al x cl (negT L) wr hT hT2 (by rw [e1]; exact h0))
        have Q2 : Hid (∀ W, Below wr.heap.size wr W → Calls Try.prog 20 #[.slice a x c] W (ErrOut (pchk L) W)) := fun W hW => sPE a x c L W (hT.below hW) h0
        rw [e1] at Q1
        have hne : (pchk L == 0) = false := by simpa using h0
        unfold ErrOut at Q1 Q2
        clear h0 e1 hT hT2
        generalize pchk L = rr at *
        go_wp2_with fail
        refine Q1.out.mono ?_
        rintro e w5 ⟨a5, c5, rfl, hb5⟩
        clear Q1
        go_wp2_with fail
        refine (Q2.out w5 hb5).mono ?_
        rintro e w6 ⟨a6, c6, rfl, hb6⟩
        have q3 := equal2_any [] [] a5 a6 0 c5 0 c6 w6 w6.heap.size ⟨rfl, fun h => absurd h (by omega)⟩ ⟨rfl, fun h => absurd h (by omega)⟩ (by omega) (by omega)
        rw [decide_eq_true rfl] at q3
        have Q3 := Lib.hid q3
        have hbG := ext_trans hbF (ext_trans hb5 hb6)
        clear q3 Q2 hb5 hb6
        go_wp2_with fail
        refine Q3.out.mono ?_
        rintro e w7 ⟨rfl, j7, rfl⟩
        clear Q3
        go_wp2
        go_ret
        exact ⟨rfl, below_drewN hbG _⟩
end Go.Proofs.Ytimjepakdldacaa

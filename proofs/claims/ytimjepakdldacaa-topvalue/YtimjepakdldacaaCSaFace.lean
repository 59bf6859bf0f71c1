/-
  saddle.Bounds and saddle.Points answer what the document says, whatever is handed in that a machine can hold; nothing that was there is written.
-/
import Derived.Test.YtimjepakdldacaaCSaCheck
import Derived.Test.YtimjepakdldacaaCSaLow
import Derived.Test.YtimjepakdldacaaCSaHigh
namespace Go.Proofs.Ytimjepakdldacaa
open Go.RowKit Fm
set_option linter.unusedVariables false

theorem sBoundsE : SBoundsE := by
  intro a m c M w ti ht
  have HC := Lib.hid (saCheck_any a m c M w ti)
  have hne : (pchk M != 0) = true := by simpa using ht
  clear ht ti
  generalize pchk M = r at *
  go_enter Try.func24, Try.ntmps24
  go_wp2_with fail
  refine HC.out.mono ?_
  rintro e w1 ⟨rfl, rfl⟩
  clear HC
  go_wp2
  go_ret3
  exact ⟨rfl, Below.refl _ w⟩

theorem sPointsE : SPointsE := by
  intro a m c M w ti ht
  have HC := Lib.hid (saCheck_any a m c M w ti)
  have hne : (pchk M != 0) = true := by simpa using ht
  clear ht ti
  generalize pchk M = r at *
  go_enter Try.func20, Try.ntmps20
  go_wp2_with fail
  refine HC.out.mono ?_
  rintro e w1 ⟨rfl, rfl⟩
  clear HC
  go_wp2
  go_ret2
  exact ⟨none, 0, rfl, Below.refl _ w⟩

set_option maxHeartbeats 1000000 in
set_option maxRecDepth 100000 in
theorem sBounds : SBounds := by
  intro r k a m c M w ti p
  have HC := Lib.hid (saCheck_any a m c M w ti)
  rw [p.chk] at HC
  obtain ⟨B, hB, hr0, _, _⟩ := ti
  have hr := hr0.more hB
  have r1 := p.r1
  have r6 := p.r6
  have k1 := p.k1
  have k6 := p.k6
  have QL := Lib.hid (lows_own p a m c w hr)
  have QH : Hid (∀ W, Below w.heap.size w W → Calls Try.prog 40 #[.slice a m c] W fun e w' => ∃ v, e = .returned v ∧ w'.ownsRow W.heap.size 3 1 v k (I (highL M k r 0)) ∧ Below W.heap.size W w') := fun W hW => highs_own p a m c W (rdr_ext hr hW)
  have HLO : Hid (most (lowL M r r) = loB M) := by show _ = _; rw [lowL_end p]; rfl
  have HHI : Hid (leastI (highL M k r 0) = hiB k M) := by show _ = _; rw [highL_end p]; rfl
  clear hr hr0 p
  generalize lowL M r r = L at *
  generalize highL M k r 0 = H at *
  generalize loB M = lo at *
  generalize hiB k M = hi at *
  go_enter Try.func24, Try.ntmps24
  go_wp2_with fail
  refine HC.out.mono ?_
  rintro e w1 ⟨rfl, rfl⟩
  clear HC
  go_wp2_with fail
  refine QL.out.mono ?_
  rintro e w1 ⟨v1, rfl, own1, hb1⟩
  obtain ⟨a1, c1, rfl, _, _⟩ := own_slice own1
  have Q1 := Lib.hid (maxI_any L a1 r c1 w1 w1.heap.size (by omega) (Rd.of_own own1) (by omega))
  rw [HLO.out] at Q1
  have QH2 := Lib.hid (QH.out w1 hb1)
  clear QL QH own1
  go_wp2_with fail
  refine Q1.out.mono ?_
  rintro e w2 ⟨rfl, rfl⟩
  go_wp2_with fail
  refine QH2.out.mono ?_
  rintro e w2 ⟨v2, rfl, own2, hb2⟩
  obtain ⟨a2, c2, rfl, _, _⟩ := own_slice own2
  have Q2 := Lib.hid (minI_any H a2 k c2 w2 w2.heap.size (by omega) (Rd.of_own own2) (by omega))
  rw [HHI.out] at Q2
  have hbf := ext_trans hb1 hb2
  clear QH2 own2 Q1 hb1 hb2
  go_wp2_with fail
  refine Q2.out.mono ?_
  rintro e w3 ⟨rfl, rfl⟩
  go_wp2
  go_ret3
  exact ⟨rfl, hbf⟩

set_option maxHeartbeats 4000000 in
set_option maxRecDepth 100000 in
theorem sPoints : SPoints := by
  intro r k a n c M w ti p
  have HC := Lib.hid (saCheck_any a n c M w ti)
  rw [p.chk] at HC
  obtain ⟨B, hB, hr0, _, _⟩ := ti
  have hr := hr0.more hB
  have hn : n = r := by rw [← hr.1, p.len]
  subst hn
  have HP := Lib.hid p
  have r1 := p.r1
  have r6 := p.r6
  have k1 := p.k1
  have k6 := p.k6
  have HR := Lib.hid hr
  have QL := Lib.hid (lows_own p a n c w hr)
  have QH : Hid (∀ W, Below w.heap.size w W → Calls Try.prog 40 #[.slice a n c] W fun e w' => ∃ v, e = .returned v ∧ w'.ownsRow W.heap.size 3 1 v k (I (highL M k n 0)) ∧ Below W.heap.size W w') := fun W hW => highs_own p a n c W (rdr_ext hr hW)
  have HLA : Hid (∀ i, i < n → (lowL M n n).getD i 0 = rmin M i) := fun i hi => lowL_at M hi
  have HHA : Hid (∀ j, j < k → (highL M k n 0).getD j 0 = cmax M j) := fun j hj => highL_fin p hj
  have HLE : Hid (∀ i, i ≤ n → (ptA M k i).length ≤ 36) := fun i hi => by
    have h := ptA_len (M := M) (k := k) i
    have h2 : i * k ≤ 6 * 6 := Nat.mul_le_mul (by omega) (by omega)
    omega
  have HE : Hid (PairsOut (ptA M k n) w = fun e w' => ∃ a c, e = .returned (.tuple #[.slice a (ptA M k n).length c, .int .i64 0]) ∧ (ptA M k n).length ≤ c ∧ c ≤ maxLen ∧ Rd2 w' w'.heap.size a (ptA M k n).length (ptA M k n) ∧ Below w.heap.size w w') := rfl
  rw [HE.out]
  clear hr hr0 p HE
  generalize lowL M n n = L at *
  generalize highL M k n 0 = H at *
  go_enter Try.func20, Try.ntmps20
  go_wp2_with fail
  refine HC.out.mono ?_
  rintro e w1 ⟨rfl, rfl⟩
  clear HC
  go_wp2_with fail
  refine QL.out.mono ?_
  rintro e w1 ⟨v1, rfl, own1, hb1⟩
  obtain ⟨g1, c1, rfl, hg1, hg1s, hnc1, hcm1, _⟩ := own_form own1 (by omega)
  have QH2 := Lib.hid (QH.out w1 hb1)
  clear QL QH
  go_wp2_with fail
  refine QH2.out.mono ?_
  rintro e w5 ⟨v2, rfl, own2, hb2⟩
  clear QH2
  obtain ⟨g2, c2, rfl, hg2, hg2s, hnc2, hcm2, _⟩ := own_form own2 (by omega)
  have own1' := own_below own1 hb2 (Nat.le_refl _)
  have HB5 := Lib.hid (ext_trans hb1 hb2)
  have C1 : Hid (∀ i, i < n → w5.cell? ⟨g1, i, none⟩ = some (.int .i64 (rmin M i))) := fun i hi => by rw [own_cell own1' i hi, HLA.out i hi]
  have C2 : Hid (∀ j, j < k → w5.cell? ⟨g2, j, none⟩ = some (.int .i64 (cmax M j))) := fun j hj => by rw [own_cell own2 j hj, HHA.out j hj]
  have l1 : g1 < w5.heap.size := by have := hb2.size; omega
  unfold maxLen at hcm1 hcm2
  clear own1 own1' own2 hb1 hb2 hg1 hg1s hg2 HLA HHA
  go_wp2_with fail
  go_loopw [7, 23] (fun ov iv wr => ∃ i : Nat, i ≤ n ∧ iv = .int .i64 i ∧ wr.ownsRow w5.heap.size 34 2 ov (ptA M k i).length (G2 (ptA M k i)) ∧ Below w5.heap.size w5 wr) (fun _ iv _ => n - (intOf iv).toNat)
  case atStart => exact ⟨0, Nat.zero_le _, rfl, own2_nil _ _, Below.refl _ w5⟩
  case round =>
    obtain ⟨i, hi, rfl, hown, hbel⟩ := hrel
    by_cases hin : i < n
    · have hbw := ext_trans HB5.out hbel
      obtain ⟨b', o', a', c', hba, hb2, hcell, hl1, _, _, hrd⟩ := HR.out.at_ hin
      subst hba
      have hrl := HP.out.row hin
      rw [hrl] at hcell hrd hl1
      have q1 : wr.cell? ⟨b', o' + i, none⟩ = some (.slice a' k c') := (hbw.cell (by show b' < _; omega)).trans hcell
      have HRD : Hid (Rd w w.heap.size a' k (M.getD i [])) := hrd
      have HO0 : Hid (wr.ownsRow w5.heap.size 34 2 u7 (ptA M k i ++ ptI M i 0).length (G2 (ptA M k i ++ ptI M i 0))) := by
        show World.ownsRow _ _ _ _ _ _ _
        rw [show ptI M i 0 = [] from rfl, List.append_nil]; exact hown
      have HBE := Lib.hid hbel
      have d1 : decide ((i : Int) < (n : Int)) = true := decide_eq_true (by omega)
      clear hcell hrd hown hbw hbel
      obtain ⟨wo, rfl⟩ : ∃ wo, wo = wr := ⟨_, rfl⟩
      go_wp2_with fail
      go_loopw [7, 30] (fun ov jv wr => ∃ j : Nat, j ≤ k ∧ jv = .int .i64 j ∧ wr.ownsRow w5.heap.size 34 2 ov (ptA M k i ++ ptI M i j).length (G2 (ptA M k i ++ ptI M i j)) ∧ Below w5.heap.size w5 wr) (fun _ jv _ => k - (intOf jv).toNat)
      case atStart => exact ⟨0, Nat.zero_le _, rfl, HO0.out, HBE.out⟩
      case round =>
        obtain ⟨j, hj, rfl, hown, hbel⟩ := hrel
        clear HO0 HBE
        have hz := hbel.size
        by_cases hjk : j < k
        · have hbw := ext_trans HB5.out hbel
          obtain ⟨bx, ox, rfl, hbx, hcx⟩ := HRD.out.at_ hjk
          have q2 : wr.cell? ⟨bx, ox + j, none⟩ = some (.int .i64 (ent M i j)) := (hbw.cell (by exact hbx)).trans hcx
          have q3 : wr.cell? ⟨g1, i, none⟩ = some (.int .i64 (rmin M i)) := (hbel.cell (by exact l1)).trans (C1.out i hin)
          have q4 : wr.cell? ⟨g2, j, none⟩ = some (.int .i64 (cmax M j)) := (hbel.cell (by exact hg2s)).trans (C2.out j hjk)
          have HPT : Hid (isPt M i j = (decide (ent M i j = rmin M i) && decide (ent M i j = cmax M j))) := rfl
          have HNX : Hid (ptI M i (j + 1) = ptI M i j ++ if isPt M i j = true then [((i : Int), (j : Int))] else []) := rfl
          have hle : (ptA M k i ++ ptI M i j).length ≤ 42 := by
            rw [List.length_append]
            have := HLE.out i hi
            have := ptI_len (M := M) i j
            omega
          clear hcx
          generalize ent M i j = x at *
          generalize rmin M i = y1 at *
          generalize cmax M j = y2 at *
          by_cases h1 : x = y1
          · have hb1 : (x == y1) = true := by simp [h1]
            by_cases h2 : x = y2
            · have hb2 : (x == y2) = true := by simp [h2]
              rw [decide_eq_true h1, decide_eq_true h2] at HPT
              have HN2 : Hid (ptA M k i ++ ptI M i (j + 1) = (ptA M k i ++ ptI M i j) ++ [((i : Int), (j : Int))]) := by
                show _ = _
                rw [HNX.out, HPT.out, List.append_assoc]; rfl
              clear HNX HPT h1 h2
              generalize ptA M k i ++ ptI M i j = Bt at *
              go_wp2_with (at_builtin; go_must (refine push2 rfl _ _ rfl wr w5.heap.size _ Bt.length Bt (i : Int) (j : Int) rfl rfl (by exact hown) hz (by omega) ?_))
              intro g cap w6 own6 hgr hg6 hg7
              have hb6 : Below w5.heap.size w5 w6 := hbel.grown hgr hz (fun y hy => (hown.lt y hy).1)
              have own7 : w6.ownsRow w5.heap.size 34 2 (.slice (some ⟨g, 0, none⟩) (Bt.length + 1) cap) (ptA M k i ++ ptI M i (j + 1)).length (G2 (ptA M k i ++ ptI M i (j + 1))) := by
                rw [HN2.out, List.length_append]; exact own6
              clear hgr hg6 hg7 hown hbel own6 HN2 hbw
              go_wp2
              go_roundw
              case rel => exact ⟨j + 1, by omega, by go_num, own7, hb6⟩
              case measure => simp [intOf]; omega
            · have hb2 : (x == y2) = false := by simp [h2]
              rw [decide_eq_true h1, decide_eq_false h2] at HPT
              have HN2 : Hid (ptA M k i ++ ptI M i j = ptA M k i ++ ptI M i (j + 1)) := by
                show _ = _
                rw [HNX.out, HPT.out]; simp
              rw [HN2.out] at hown
              clear HNX HPT h1 h2 hbw hle
              go_wp2
              go_roundw
              case rel => exact ⟨j + 1, by omega, by go_num, hown, hbel⟩
              case measure => simp [intOf]; omega
          · have hb1 : (x == y1) = false := by simp [h1]
            rw [decide_eq_false h1] at HPT
            have HN2 : Hid (ptA M k i ++ ptI M i j = ptA M k i ++ ptI M i (j + 1)) := by
              show _ = _
              rw [HNX.out, HPT.out]; simp
            rw [HN2.out] at hown
            clear HNX HPT h1 hbw hle
            go_wp2
            go_roundw
            case rel => exact ⟨j + 1, by omega, by go_num, hown, hbel⟩
            case measure => simp [intOf]; omega
        · obtain rfl : j = k := by omega
          have HN2 : Hid (ptA M j i ++ ptI M i j = ptA M j (i + 1)) := rfl
          rw [HN2.out] at hown
          go_wp2
          go_roundw
          case rel => exact ⟨i + 1, by omega, by go_num, hown, hbel⟩
          case measure => simp [intOf]; omega
    · obtain rfl : i = n := by omega
      obtain ⟨a6, c6, rfl, h6, h7⟩ := own2_slice hown
      have R6 := Lib.hid (Rd2.of_own hown)
      have hbf := ext_trans HB5.out hbel
      clear hown
      go_wp2
      go_ret2
      exact ⟨_, _, rfl, h6, h7, R6.out, hbf⟩
end Go.Proofs.Ytimjepakdldacaa

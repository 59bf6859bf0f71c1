/-
  equil.Rest answers what the document says, whatever is handed in that a machine can hold; nothing that was there is written.
-/
import Derived.Test.YtimjepakdldacaaCEqCheck
import Derived.Test.YtimjepakdldacaaCEqHigh
import Derived.Test.YtimjepakdldacaaCMinMax
namespace Go.Proofs.Ytimjepakdldacaa
open Go.RowKit Fm
set_option linter.unusedVariables false

theorem eRestE : ERestE := by
  intro a m c A b n d B w ta tb ht
  have HC := Lib.hid (eqCheck_any a m c A b n d B w ta tb)
  have hne : (echk A B != 0) = true := by simpa using ht
  clear ht ta tb
  generalize echk A B = r at *
  go_enter Try.func9, Try.ntmps9
  go_wp2_with fail
  refine HC.out.mono ?_
  rintro e w1 ⟨rfl, hb⟩
  clear HC
  go_wp2
  go_ret2
  exact ⟨none, 0, rfl, hb⟩

set_option maxHeartbeats 4000000 in
set_option maxRecDepth 100000 in
theorem eRest : ERest := by
  intro r k a n c A b m d B w ta tb g
  have HC := Lib.hid (eqCheck_any a n c A b m d B w ta tb)
  rw [g.chk] at HC
  obtain ⟨Ba, hBa, ra0, _, _⟩ := ta
  obtain ⟨Bb, hBb, rb0, _, _⟩ := tb
  have ra := ra0.more hBa
  have rb := rb0.more hBb
  have hn : n = r := by rw [← ra.1, g.a.len]
  have hm : m = r := by rw [← rb.1, g.b.len]
  subst hn
  subst hm
  have HG := Lib.hid g
  have r1 := g.a.r1
  have r6 := g.a.r6
  have k1 := g.a.k1
  have k6 := g.a.k6
  have HRA := Lib.hid ra
  have HRB := Lib.hid rb
  have QH : Hid (∀ W, Below w.heap.size w W → Calls Try.prog 26 #[.slice a m c] W fun e w' => ∃ v, e = .returned v ∧ w'.ownsRow W.heap.size 3 1 v k (I (highL A k m 0)) ∧ Below W.heap.size W w') := fun W hW => eqHighs_own g.a a m c W (rdr_ext ra hW)
  have HHA : Hid (∀ j, j < k → (highL A k m 0).getD j 0 = cmax A j) := fun j hj => highL_fin g.a hj
  have HLE : Hid (∀ i, i ≤ m → (selA (isEq A B) k i).length ≤ 36) := fun i hi => by
    have h := selA_len (P := isEq A B) (k := k) i
    have h2 : i * k ≤ 6 * 6 := Nat.mul_le_mul (by omega) (by omega)
    omega
  have HE : Hid (PairsOut (eqA A B k m) w = fun e w' => ∃ a c, e = .returned (.tuple #[.slice a (selA (isEq A B) k m).length c, .int .i64 0]) ∧ (selA (isEq A B) k m).length ≤ c ∧ c ≤ maxLen ∧ Rd2 w' w'.heap.size a (selA (isEq A B) k m).length (selA (isEq A B) k m) ∧ Below w.heap.size w w') := rfl
  rw [HE.out]
  clear ra rb ra0 rb0 g HE
  generalize highL A k m 0 = H at *
  go_enter Try.func9, Try.ntmps9
  go_wp2_with fail
  refine HC.out.mono ?_
  rintro e w1 ⟨rfl, hb1⟩
  have QH2 := Lib.hid (QH.out w1 hb1)
  clear HC QH
  go_wp2_with fail
  refine QH2.out.mono ?_
  rintro e w5 ⟨v2, rfl, own2, hb2⟩
  clear QH2
  obtain ⟨g2, c2, rfl, hg2, hg2s, hnc2, hcm2, _⟩ := own_form own2 (by omega)
  have HB5 := Lib.hid (ext_trans hb1 hb2)
  have C2 : Hid (∀ j, j < k → w5.cell? ⟨g2, j, none⟩ = some (.int .i64 (cmax A j))) := fun j hj => by rw [own_cell own2 j hj, HHA.out j hj]
  unfold maxLen at hcm2
  clear own2 hb1 hb2 hg2 HHA
  go_wp2_with fail
  go_loopw [8, 24] (fun ov iv wr => ∃ i : Nat, i ≤ m ∧ iv = .int .i64 i ∧ wr.ownsRow w5.heap.size 34 2 ov (selA (isEq A B) k i).length (G2 (selA (isEq A B) k i)) ∧ Below w5.heap.size w5 wr) (fun _ iv _ => m - (intOf iv).toNat)
  case atStart => exact ⟨0, Nat.zero_le _, rfl, own2_nil _ _, Below.refl _ w5⟩
  case round =>
    obtain ⟨i, hi, rfl, hown, hbel⟩ := hrel
    by_cases hin : i < m
    · have hbw := ext_trans HB5.out hbel
      obtain ⟨b', o', a', c', hba, hb2, hcell, hl1, _, _, hrd⟩ := HRA.out.at_ hin
      subst hba
      have hrl := HG.out.a.row hin
      rw [hrl] at hcell hrd hl1
      obtain ⟨b9, o9, a9, c9, hbb, hb9, hcell9, hl9, _, _, hrd9⟩ := HRB.out.at_ hin
      subst hbb
      have hrl9 := HG.out.b.row hin
      rw [hrl9] at hcell9 hrd9 hl9
      have q1 : wr.cell? ⟨b', o' + i, none⟩ = some (.slice a' k c') := (hbw.cell (by show b' < _; omega)).trans hcell
      have q9 : wr.cell? ⟨b9, o9 + i, none⟩ = some (.slice a9 k c9) := (hbw.cell (by show b9 < _; omega)).trans hcell9
      have HQ9 : Hid (∀ W, Below w5.heap.size w5 W → W.cell? ⟨b9, o9 + i, none⟩ = some (.slice a9 k c9)) := fun W hW => ((ext_trans HB5.out hW).cell (by show b9 < _; omega)).trans hcell9
      have QM := Lib.hid (maxI_any (B.getD i []) a9 k c9 wr wr.heap.size (by omega) (rd_ext hrd9 hbw) (by omega))
      have hrm : most (B.getD i []) = rmax B i := rfl
      rw [hrm] at QM
      have HRD : Hid (Rd w w.heap.size a' k (A.getD i [])) := hrd
      have HRD9 : Hid (Rd w w.heap.size a9 k (B.getD i [])) := hrd9
      have HO0 : Hid (wr.ownsRow w5.heap.size 34 2 u8 (selA (isEq A B) k i ++ selI (isEq A B) i 0).length (G2 (selA (isEq A B) k i ++ selI (isEq A B) i 0))) := by
        show World.ownsRow _ _ _ _ _ _ _
        rw [show selI (isEq A B) i 0 = [] from rfl, List.append_nil]; exact hown
      have HBE := Lib.hid hbel
      have d1 : decide ((i : Int) < (m : Int)) = true := decide_eq_true (by omega)
      clear hcell hrd hown hbw hbel hcell9 hrd9 hrm
      obtain ⟨wo, rfl⟩ : ∃ wo, wo = wr := ⟨_, rfl⟩
      go_wp2_with fail
      refine QM.out.mono ?_
      rintro e w' ⟨rfl, rfl⟩
      clear QM q9
      go_wp2_with fail
      go_loopw [8, 36] (fun ov jv wr => ∃ j : Nat, j ≤ k ∧ jv = .int .i64 j ∧ wr.ownsRow w5.heap.size 34 2 ov (selA (isEq A B) k i ++ selI (isEq A B) i j).length (G2 (selA (isEq A B) k i ++ selI (isEq A B) i j)) ∧ Below w5.heap.size w5 wr) (fun _ jv _ => k - (intOf jv).toNat)
      case atStart => exact ⟨0, Nat.zero_le _, rfl, HO0.out, HBE.out⟩
      case round =>
        obtain ⟨j, hj, rfl, hown, hbel⟩ := hrel
        clear HO0 HBE
        have hz := hbel.size
        by_cases hjk : j < k
        · have hbw := ext_trans HB5.out hbel
          obtain ⟨bx, ox, rfl, hbx, hcx⟩ := HRD.out.at_ hjk
          obtain ⟨bz, oz, rfl, hbz, hcz⟩ := HRD9.out.at_ hjk
          have q2 : wr.cell? ⟨bx, ox + j, none⟩ = some (.int .i64 (ent A i j)) := (hbw.cell (by exact hbx)).trans hcx
          have q3 : wr.cell? ⟨bz, oz + j, none⟩ = some (.int .i64 (ent B i j)) := (hbw.cell (by exact hbz)).trans hcz
          have q4 : wr.cell? ⟨g2, j, none⟩ = some (.int .i64 (cmax A j)) := (hbel.cell (by exact hg2s)).trans (C2.out j hjk)
          have q5 := HQ9.out wr hbel
          have HPT : Hid (isEq A B i j = (decide (ent A i j = cmax A j) && decide (ent B i j = rmax B i))) := rfl
          have HNX : Hid (selI (isEq A B) i (j + 1) = selI (isEq A B) i j ++ if isEq A B i j = true then [((i : Int), (j : Int))] else []) := rfl
          have hle : (selA (isEq A B) k i ++ selI (isEq A B) i j).length ≤ 42 := by
            rw [List.length_append]
            have := HLE.out i hi
            have := selI_len (P := isEq A B) i j
            omega
          clear hcx hcz
          generalize ent A i j = x at *
          generalize ent B i j = y at *
          generalize rmax B i = y1 at *
          generalize cmax A j = y2 at *
          by_cases h2 : x = y2
          · have hb2 : (x == y2) = true := by simp [h2]
            by_cases h1 : y = y1
            · have hb1 : (y == y1) = true := by simp [h1]
              rw [decide_eq_true h1, decide_eq_true h2] at HPT
              have HN2 : Hid (selA (isEq A B) k i ++ selI (isEq A B) i (j + 1) = (selA (isEq A B) k i ++ selI (isEq A B) i j) ++ [((i : Int), (j : Int))]) := by
                show _ = _
                rw [HNX.out, HPT.out, List.append_assoc]; rfl
              clear HNX HPT h1 h2
              generalize selA (isEq A B) k i ++ selI (isEq A B) i j = Bt at *
              go_wp2_with (at_builtin; go_must (refine push2 rfl _ _ rfl wr w5.heap.size _ Bt.length Bt (i : Int) (j : Int) rfl rfl (by exact hown) hz (by omega) ?_))
              intro g cap w6 own6 hgr hg6 hg7
              have hb6 : Below w5.heap.size w5 w6 := hbel.grown hgr hz (fun y hy => (hown.lt y hy).1)
              have own7 : w6.ownsRow w5.heap.size 34 2 (.slice (some ⟨g, 0, none⟩) (Bt.length + 1) cap) (selA (isEq A B) k i ++ selI (isEq A B) i (j + 1)).length (G2 (selA (isEq A B) k i ++ selI (isEq A B) i (j + 1))) := by
                rw [HN2.out, List.length_append]; exact own6
              clear hgr hg6 hg7 hown hbel own6 HN2 hbw
              go_wp2
              go_roundw
              case rel => exact ⟨j + 1, by omega, by go_num, own7, hb6⟩
              case measure => simp [intOf]; omega
            · have hb1 : (y == y1) = false := by simp [h1]
              rw [decide_eq_false h1, decide_eq_true h2] at HPT
              have HN2 : Hid (selA (isEq A B) k i ++ selI (isEq A B) i j = selA (isEq A B) k i ++ selI (isEq A B) i (j + 1)) := by
                show _ = _
                rw [HNX.out, HPT.out]; simp
              rw [HN2.out] at hown
              clear HNX HPT h1 h2 hbw hle
              go_wp2
              go_roundw
              case rel => exact ⟨j + 1, by omega, by go_num, hown, hbel⟩
              case measure => simp [intOf]; omega
          · have hb2 : (x == y2) = false := by simp [h2]
            rw [decide_eq_false h2] at HPT
            have HN2 : Hid (selA (isEq A B) k i ++ selI (isEq A B) i j = selA (isEq A B) k i ++ selI (isEq A B) i (j + 1)) := by
              show _ = _
              rw [HNX.out, HPT.out]; simp
            rw [HN2.out] at hown
            clear HNX HPT h2 hbw hle
            go_wp2
            go_roundw
            case rel => exact ⟨j + 1, by omega, by go_num, hown, hbel⟩
            case measure => simp [intOf]; omega
        · obtain rfl : j = k := by omega
          have HN2 : Hid (selA (isEq A B) j i ++ selI (isEq A B) i j = selA (isEq A B) j (i + 1)) := rfl
          rw [HN2.out] at hown
          go_wp2
          go_roundw
          case rel => exact ⟨i + 1, by omega, by go_num, hown, hbel⟩
          case measure => simp [intOf]; omega
    · obtain rfl : i = m := by omega
      obtain ⟨a6, c6, rfl, h6, h7⟩ := own2_slice hown
      have R6 := Lib.hid (Rd2.of_own hown)
      have hbf := ext_trans HB5.out hbel
      clear hown
      go_wp2
      go_ret2
      exact ⟨_, _, rfl, h6, h7, R6.out, hbf⟩
end Go.Proofs.Ytimjepakdldacaa

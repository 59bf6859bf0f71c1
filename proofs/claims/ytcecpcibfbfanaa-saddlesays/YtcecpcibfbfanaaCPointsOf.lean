/-
  plumeref.PointsOf at a right table: its points, in a row of its own; nothing that was there is written.
-/
import Derived.Test.YtcecpcibfbfanaaCColumns
import Derived.Test.YtcecpcibfbfanaaCMinMax
import Derived.Test.YtcecpcibfbfanaaPayP
namespace Go.Proofs.Ytcecpcibfbfanaa
open Go.RowKit Fm
set_option linter.unusedVariables false

def PtsOut (l : List P2) (w : World) (e : Ending) (w' : World) : Prop := ∃ v, e = .returned v ∧ w'.ownsRow w.heap.size 37 2 v l.length (G2 l) ∧ Below w.heap.size w w'
set_option maxHeartbeats 4000000 in
set_option maxRecDepth 100000 in
theorem pointsOf_any {r k : Nat} {M : List (List Int)} (p : Pay r k M) (a : Option Addr) (n c : Nat) (w : World) (hr : RdR w w.heap.size a n M) :
    Calls Try.prog 15 #[.slice a n c] w (PtsOut (ptA M k n) w) := by
  obtain ⟨rfl, b, o, rfl, hb, hsq⟩ := rdr_sqP hr p
  have HP := Lib.hid p
  have r1 := p.r1
  have r6 := p.r6
  have k1 := p.k1
  have k6 := p.k6
  have HLM := Lib.hid p.len
  have HR := Lib.hid hr
  have HSQ := Lib.hid hsq
  have QC := Lib.hid (columns_any p _ n c w hr)
  have HCL := Lib.hid (colsM_len k M)
  have HCR : Hid (∀ l ∈ colsM k M, l.length = n) := fun l hl => by rw [colsM_rows hl, p.len]
  have HCA : Hid (∀ y, y < k → most ((colsM k M).getD y []) = cmax M y) := fun y hy => by rw [colsM_at hy]; rfl
  have HLE : Hid (∀ i, i ≤ n → (ptA M k i).length ≤ 36) := fun i hi => by
    have h := ptA_len (M := M) (k := k) i
    have h2 : i * k ≤ 6 * 6 := Nat.mul_le_mul (by omega) (by omega)
    omega
  have HE : Hid (PtsOut (ptA M k n) w = fun e w' => ∃ v, e = .returned v ∧ w'.ownsRow w.heap.size 37 2 v (ptA M k n).length (G2 (ptA M k n)) ∧ Below w.heap.size w w') := rfl
  rw [HE.out]
  clear hr hsq p HE
  go_enter Try.func15, Try.ntmps15
  go_wp2_with fail
  refine QC.out.mono ?_
  rintro e w5 ⟨v5, rfl, m5, hb5⟩
  obtain ⟨g5, c5, rfl, _, hg5, _, _⟩ := m5.form (by rw [HCL.out]; omega)
  rw [HCL.out] at m5 ⊢
  have RC := Lib.hid (m5.rd HCL.out)
  have HB5 := Lib.hid hb5
  clear QC m5
  generalize colsM k M = C at *
  go_wp2_with fail
  go_loopw [3, 13] (fun ov iv wr => ∃ i : Nat, i ≤ n ∧ iv = .int .i64 i ∧ wr.ownsRow w5.heap.size 37 2 ov (ptA M k i).length (G2 (ptA M k i)) ∧ Below w5.heap.size w5 wr) (fun _ iv _ => n - (intOf iv).toNat)
  case atStart => exact ⟨0, Nat.zero_le _, rfl, own2_nil _ _, Below.refl _ w5⟩
  case round =>
    obtain ⟨i, hi, rfl, hown, hbel⟩ := hrel
    by_cases hin : i < n
    · have hbw := ext_trans HB5.out hbel
      obtain ⟨b', o', a', c', hba, hb2, hcell, hl1, _, _, hrd⟩ := HR.out.at_ hin
      injection hba with hba
      injection hba with e1 e2
      subst e1; subst e2
      have hrl := HP.out.row hin
      rw [hrl] at hcell hrd hl1
      have q1 : wr.cell? ⟨b, o + i, none⟩ = some (.slice a' k c') := (hbw.cell (by show b < _; omega)).trans hcell
      have HRD : Hid (Rd w w.heap.size a' k (M.getD i [])) := hrd
      have HO0 : Hid (wr.ownsRow w5.heap.size 37 2 u3 (ptA M k i ++ ptI M i 0).length (G2 (ptA M k i ++ ptI M i 0))) := by
        show World.ownsRow _ _ _ _ _ _ _
        rw [show ptI M i 0 = [] from rfl, List.append_nil]; exact hown
      have HBE := Lib.hid hbel
      have d1 : decide ((i : Int) < (n : Int)) = true := decide_eq_true (by omega)
      clear hcell hrd hown hbw hbel
      obtain ⟨wo, rfl⟩ : ∃ wo, wo = wr := ⟨_, rfl⟩
      go_wp2_with fail
      go_loopw [3, 20] (fun ov jv wr => ∃ j : Nat, j ≤ k ∧ jv = .int .i64 j ∧ wr.ownsRow w5.heap.size 37 2 ov (ptA M k i ++ ptI M i j).length (G2 (ptA M k i ++ ptI M i j)) ∧ Below w5.heap.size w5 wr) (fun _ jv _ => k - (intOf jv).toNat)
      case atStart => exact ⟨0, Nat.zero_le _, rfl, HO0.out, HBE.out⟩
      case round =>
        obtain ⟨j, hj, rfl, hown, hbel⟩ := hrel
        clear HO0 HBE
        have hz := hbel.size
        by_cases hjk : j < k
        · have hbw := ext_trans HB5.out hbel
          obtain ⟨bx, ox, rfl, hbx, hcx⟩ := HRD.out.at_ hjk
          have q2 : wr.cell? ⟨bx, ox + j, none⟩ = some (.int .i64 (ent M i j)) := (hbw.cell (by exact hbx)).trans hcx
          have QM := Lib.hid (minI_any (M.getD i []) (some ⟨bx, ox, none⟩) k c' wr wr.heap.size (by omega) (rd_ext HRD.out hbw) (by omega))
          obtain ⟨b3, o3, a3, c3, hba, hb3, hcell3, hl3, _, _, hrd3⟩ := RC.out.at_ hjk
          injection hba with hba
          injection hba with e1 e2
          subst e1; subst e2
          have hrl3 := HCR.out _ (memR (show j < C.length by rw [HCL.out]; exact hjk))
          rw [hrl3] at hcell3 hrd3 hl3
          have q3 : wr.cell? ⟨g5, 0 + j, none⟩ = some (.slice a3 n c3) := (hbel.cell (by show g5 < _; omega)).trans hcell3
          rw [Nat.zero_add] at q3
          have QX := Lib.hid (maxI_any (C.getD j []) a3 n c3 wr wr.heap.size (by omega) (rd_ext hrd3 hbel) (by omega))
          rw [HCA.out j hjk] at QX
          have HPT : Hid (isPt M i j = (decide (ent M i j = rmin M i) && decide (ent M i j = cmax M j))) := rfl
          have hrm : leastI (M.getD i []) = rmin M i := rfl
          rw [hrm] at QM
          have HNX : Hid (ptI M i (j + 1) = ptI M i j ++ if isPt M i j = true then [((i : Int), (j : Int))] else []) := rfl
          have hle : (ptA M k i ++ ptI M i j).length ≤ 42 := by
            rw [List.length_append]
            have := HLE.out i hi
            have := ptI_len (M := M) i j
            omega
          clear hcx hcell3 hrd3 hrm
          generalize ent M i j = x at *
          generalize rmin M i = y1 at *
          generalize cmax M j = y2 at *
          by_cases h1 : x = y1
          · have hb1 : (x == y1) = true := by simp [h1]
            by_cases h2 : x = y2
            · have hb2 : (x == y2) = true := by simp [h2]
              rw [decide_eq_true h1, decide_eq_true h2] at HPT
              have HN2 : Hid (ptA M k i ++ ptI M i (j + 1) = (ptA M k i ++ ptI M i j) ++ [((i : Int), (j : Int))]) := by
                show _ = _
                rw [HNX.out, HPT.out, List.append_assoc]; rfl
              clear HNX HPT h1 h2
              generalize ptA M k i ++ ptI M i j = Bt at *
              go_wp2_with fail
              refine QM.out.mono ?_
              rintro e w' ⟨rfl, rfl⟩
              clear QM
              go_wp2_with fail
              refine QX.out.mono ?_
              rintro e w' ⟨rfl, rfl⟩
              clear QX
              go_wp2_with (at_builtin; go_must (refine push2 rfl _ _ rfl wr w5.heap.size _ Bt.length Bt (i : Int) (j : Int) rfl rfl (by exact hown) hz (by omega) ?_))
              intro g cap w6 own6 hgr hg6 hg7
              have hb6 : Below w5.heap.size w5 w6 := hbel.grown hgr hz (fun y hy => (hown.lt y hy).1)
              have own7 : w6.ownsRow w5.heap.size 37 2 (.slice (some ⟨g, 0, none⟩) (Bt.length + 1) cap) (ptA M k i ++ ptI M i (j + 1)).length (G2 (ptA M k i ++ ptI M i (j + 1))) := by
                rw [HN2.out, List.length_append]; exact own6
              clear hgr hg6 hg7 hown hbel own6 HN2 hbw
              go_wp2
              go_roundw
              case rel => exact ⟨j + 1, by omega, by go_num, own7, hb6⟩
              case measure => simp [intOf]; omega
            · have hb2 : (x == y2) = false := by simp [h2]
              rw [decide_eq_true h1, decide_eq_false h2] at HPT
              have HN2 : Hid (ptA M k i ++ ptI M i j = ptA M k i ++ ptI M i (j + 1)) := by
                show _ = _
                rw [HNX.out, HPT.out]; simp
              rw [HN2.out] at hown
              clear HNX HPT h1 h2 hbw hle
              have hln : (ptA M k i ++ ptI M i j).length = (ptA M k i ++ ptI M i (j + 1)).length := by rw [HN2.out]
              clear hln
              go_wp2_with fail
              refine QM.out.mono ?_
              rintro e w' ⟨rfl, rfl⟩
              clear QM
              go_wp2_with fail
              refine QX.out.mono ?_
              rintro e w' ⟨rfl, rfl⟩
              clear QX
              go_wp2
              go_roundw
              case rel => exact ⟨j + 1, by omega, by go_num, hown, hbel⟩
              case measure => simp [intOf]; omega
          · have hb1 : (x == y1) = false := by simp [h1]
            rw [decide_eq_false h1] at HPT
            have HN2 : Hid (ptA M k i ++ ptI M i j = ptA M k i ++ ptI M i (j + 1)) := by
              show _ = _
              rw [HNX.out, HPT.out]; simp
            rw [HN2.out] at hown
            clear HNX HPT h1 hbw hle QX
            go_wp2_with fail
            refine QM.out.mono ?_
            rintro e w' ⟨rfl, rfl⟩
            clear QM
            go_wp2
            go_roundw
            case rel => exact ⟨j + 1, by omega, by go_num, hown, hbel⟩
            case measure => simp [intOf]; omega
        · obtain rfl : j = k := by omega
          have HN2 : Hid (ptA M j i ++ ptI M i j = ptA M j (i + 1)) := rfl
          rw [HN2.out] at hown
          go_wp2
          go_roundw
          case rel => exact ⟨i + 1, by omega, by go_num, hown, hbel⟩
          case measure => simp [intOf]; omega
    · obtain rfl : i = n := by omega
      have hz5 := HB5.out.size
      go_wp2
      go_ret
      exact ⟨_, rfl, own2_mono hown hz5, ext_trans HB5.out hbel⟩
end Go.Proofs.Ytcecpcibfbfanaa

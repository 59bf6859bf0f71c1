/-
  plumeref.RestsOf at a right game: the pairs at which neither would go, in a row of its own; nothing that was there is written.
-/
import Derived.Test.YtimjepakdldacaaCColumns
import Derived.Test.YtimjepakdldacaaCMinMax
import Derived.Test.YtimjepakdldacaaEquilP
import Derived.BigQuiet
import Derived.Deep.QuietTactic
namespace Go.Proofs.Ytimjepakdldacaa
open Go.RowKit Fm
set_option linter.unusedVariables false

def RestsOut (l : List P2) (w : World) (e : Ending) (w' : World) : Prop := ∃ v, e = .returned v ∧ w'.ownsRow w.heap.size 34 2 v l.length (G2 l) ∧ Below w.heap.size w w'

set_option maxHeartbeats 4000000 in
set_option maxRecDepth 100000 in
theorem restsOf_any {n k : Nat} {A B : List (List Int)} (g : Gam n k A B) (a : Option Addr) (c : Nat) (b0 : Option Addr) (d : Nat) (w : World) (ha : RdR w w.heap.size a n A) (hb0 : RdR w w.heap.size b0 n B) :
    Calls Try.prog 15 #[.slice a n c, .slice b0 n d] w (RestsOut (eqA A B k n) w) := by
  have p := g.a
  obtain ⟨_, b, o, rfl, hb, hsq⟩ := rdr_sqP ha p
  have HP := Lib.hid p
  have HPB := Lib.hid g.b
  have r1 := p.r1
  have r6 := p.r6
  have k1 := p.k1
  have k6 := p.k6
  have HR := Lib.hid ha
  have HRB := Lib.hid hb0
  have QC := Lib.hid (columns_any p _ n c w ha)
  have HCL := Lib.hid (colsM_len k A)
  have HCR : Hid (∀ l ∈ colsM k A, l.length = n) := fun l hl => by rw [colsM_rows hl, p.len]
  have HCA : Hid (∀ y, y < k → most ((colsM k A).getD y []) = cmax A y) := fun y hy => by rw [colsM_at hy]; rfl
  have HLE : Hid (∀ i, i ≤ n → (eqA A B k i).length ≤ 36) := fun i hi => by
    have h : (eqA A B k i).length ≤ i * k := selA_len (P := isEq A B) (k := k) i
    have h2 : i * k ≤ 6 * 6 := Nat.mul_le_mul (by omega) (by omega)
    omega
  have HNE : Hid (∀ i, eqA A B k (i + 1) = eqA A B k i ++ selI (isEq A B) i k) := fun _ => rfl
  have HE : Hid (RestsOut (eqA A B k n) w = fun e w' => ∃ v, e = .returned v ∧ w'.ownsRow w.heap.size 34 2 v (eqA A B k n).length (G2 (eqA A B k n)) ∧ Below w.heap.size w w') := rfl
  rw [HE.out]
  clear ha hb0 hsq p g HE
  go_enter Try.func15, Try.ntmps15
  go_wp2_with fail
  refine QC.out.mono ?_
  rintro e w5 ⟨v5, rfl, m5, hb5⟩
  obtain ⟨g5, c5, rfl, _, hg5, _, _⟩ := m5.form (by rw [HCL.out]; omega)
  rw [HCL.out] at m5 ⊢
  have RC := Lib.hid (m5.rd HCL.out)
  have HB5 := Lib.hid hb5
  clear QC m5
  generalize colsM k A = C at *
  go_wp2_with fail
  go_loopw [5, 13] (fun ov iv wr => ∃ i : Nat, i ≤ n ∧ iv = .int .i64 i ∧ wr.ownsRow w5.heap.size 34 2 ov (eqA A B k i).length (G2 (eqA A B k i)) ∧ Below w5.heap.size w5 wr) (fun _ iv _ => n - (intOf iv).toNat)
  case atStart => exact ⟨0, Nat.zero_le _, rfl, own2_nil _ _, Below.refl _ w5⟩
  case round =>
    obtain ⟨i, hi, rfl, hown, hbel⟩ := hrel
    by_cases hin : i < n
    · have hbw := ext_trans HB5.out hbel
      obtain ⟨b', o', a', c', hba, hb2, hcell, hl1, _, _, hrd⟩ := HR.out.at_ hin
      injection hba with hba
      injection hba with e1 e2
      subst e1; subst e2
      have hrl := HP.out.row hin
      rw [hrl] at hcell hrd hl1
      have q1 : wr.cell? ⟨b, o + i, none⟩ = some (.slice a' k c') := (hbw.cell (by show b < _; omega)).trans hcell
      obtain ⟨bB, oB, aB, cB, rfl, hbB, hcellB, hlB, _, _, hrdB⟩ := HRB.out.at_ hin
      have hrlB := HPB.out.row hin
      rw [hrlB] at hcellB hrdB hlB
      have q1B : wr.cell? ⟨bB, oB + i, none⟩ = some (.slice aB k cB) := (hbw.cell (by show bB < _; omega)).trans hcellB
      have HRD : Hid (Rd w w.heap.size a' k (A.getD i [])) := hrd
      have HRDB : Hid (Rd w w.heap.size aB k (B.getD i [])) := hrdB
      have HO0 : Hid (wr.ownsRow w5.heap.size 34 2 u5 (eqA A B k i ++ selI (isEq A B) i 0).length (G2 (eqA A B k i ++ selI (isEq A B) i 0))) := by
        show World.ownsRow _ _ _ _ _ _ _
        rw [show selI (isEq A B) i 0 = [] from rfl, List.append_nil]; exact hown
      have HBE := Lib.hid hbel
      have HQ1 := Lib.hid hcell
      have HQB := Lib.hid hcellB
      have d1 : decide ((i : Int) < (n : Int)) = true := decide_eq_true (by omega)
      clear hcell hrd hown hbw hbel hcellB hrdB hrl hrlB
      obtain ⟨wo, rfl⟩ : ∃ wo, wo = wr := ⟨_, rfl⟩
      go_wp2_with fail
      clear q1 q1B
      go_loopw [5, 21] (fun ov jv wr => ∃ j : Nat, j ≤ k ∧ jv = .int .i64 j ∧ wr.ownsRow w5.heap.size 34 2 ov (eqA A B k i ++ selI (isEq A B) i j).length (G2 (eqA A B k i ++ selI (isEq A B) i j)) ∧ Below w5.heap.size w5 wr) (fun _ jv _ => k - (intOf jv).toNat)
      case atStart => exact ⟨0, Nat.zero_le _, rfl, HO0.out, HBE.out⟩
      case round =>
        obtain ⟨j, hj, rfl, hown, hbel⟩ := hrel
        clear HO0 HBE
        have hz := hbel.size
        by_cases hjk : j < k
        · have hbw := ext_trans HB5.out hbel
          have q1 : wr.cell? ⟨b, o + i, none⟩ = some (.slice a' k c') := (hbw.cell (by show b < _; omega)).trans HQ1.out
          have q1B : wr.cell? ⟨bB, oB + i, none⟩ = some (.slice aB k cB) := (hbw.cell (by show bB < _; omega)).trans HQB.out
          obtain ⟨bx, ox, rfl, hbx, hcx⟩ := HRD.out.at_ hjk
          have q2 : wr.cell? ⟨bx, ox + j, none⟩ = some (.int .i64 (ent A i j)) := (hbw.cell (by exact hbx)).trans hcx
          obtain ⟨by', oy, rfl, hby, hcy⟩ := HRDB.out.at_ hjk
          have q2B : wr.cell? ⟨by', oy + j, none⟩ = some (.int .i64 (ent B i j)) := (hbw.cell (by exact hby)).trans hcy
          obtain ⟨b3, o3, a3, c3, hba, hb3, hcell3, hl3, _, _, hrd3⟩ := RC.out.at_ hjk
          injection hba with hba
          injection hba with e1 e2
          subst e1; subst e2
          have hrl3 := HCR.out _ (memR (show j < C.length by rw [HCL.out]; exact hjk))
          rw [hrl3] at hcell3 hrd3 hl3
          have q3 : wr.cell? ⟨g5, 0 + j, none⟩ = some (.slice a3 n c3) := (hbel.cell (by show g5 < _; omega)).trans hcell3
          rw [Nat.zero_add] at q3
          have hrd3' := rd_ext hrd3 hbel
          have hrdB' := rd_ext HRDB.out hbw
          have QX : Hid (∀ jn, Calls Try.prog 27 #[.slice a3 n c3] (wr.drewN jn) fun e w' => e = .returned (.int .i64 (cmax A j)) ∧ w' = wr.drewN jn) := fun jn => by
            have := maxI_any (C.getD j []) a3 n c3 (wr.drewN jn) wr.heap.size (by omega) (hrd3'.drewN jn) (by omega)
            rw [HCA.out j hjk] at this
            exact this.mono fun e w' ⟨h1, h2⟩ => ⟨h1, h2.symm⟩
          have QY : Hid (∀ jn, Calls Try.prog 27 #[.slice (some ⟨by', oy, none⟩) k cB] (wr.drewN jn) fun e w' => e = .returned (.int .i64 (rmax B i)) ∧ w' = wr.drewN jn) := fun jn =>
            (maxI_any (B.getD i []) (some ⟨by', oy, none⟩) k cB (wr.drewN jn) wr.heap.size (by omega) (hrdB'.drewN jn) (by omega)).mono fun e w' ⟨h1, h2⟩ => ⟨h1, h2.symm⟩
          have HPT : Hid (isEq A B i j = (decide (ent A i j = cmax A j) && decide (ent B i j = rmax B i))) := rfl
          have HNX : Hid (selI (isEq A B) i (j + 1) = selI (isEq A B) i j ++ if isEq A B i j = true then [((i : Int), (j : Int))] else []) := rfl
          have hle : (eqA A B k i ++ selI (isEq A B) i j).length ≤ 42 := by
            rw [List.length_append]
            have := HLE.out i hi
            have := selI_len (P := isEq A B) i j
            omega
          have d1j : decide ((j : Int) < (k : Int)) = true := decide_eq_true (by omega)
          clear hcx hcy hcell3 hrd3 hrd3' hrdB' HQ1 HQB
          generalize ent A i j = x at *
          generalize ent B i j = x2 at *
          generalize cmax A j = y1 at *
          generalize rmax B i = y2 at *
          by_cases h1 : x = y1
          · have hb1 : (x == y1) = true := by simp [h1]
            by_cases h2 : x2 = y2
            · have hb2 : (x2 == y2) = true := by simp [h2]
              rw [decide_eq_true h1, decide_eq_true h2] at HPT
              have HN2 : Hid (eqA A B k i ++ selI (isEq A B) i (j + 1) = (eqA A B k i ++ selI (isEq A B) i j) ++ [((i : Int), (j : Int))]) := by
                show _ = _
                rw [HNX.out, HPT.out, List.append_assoc]; rfl
              clear HNX HPT h1 h2
              generalize eqA A B k i ++ selI (isEq A B) i j = Bt at *
              go_wp2_with fail
              go_quiet ((first | (go_at_call 27; with_reducible exact Calls.quiet_of_same (QX.out _)) | (go_at_call 27; with_reducible exact Calls.quiet_of_same (QY.out _))))
              have hbq := below_drewN hbel nq
              have hownq : (wr.drewN nq).ownsRow w5.heap.size 34 2 u5 Bt.length (G2 Bt) := hown
              have hzq : w5.heap.size ≤ (wr.drewN nq).heap.size := hz
              obtain ⟨W2, hW2⟩ : ∃ W, W = wr.drewN nq := ⟨_, rfl⟩
              rw [← hW2] at hbq hownq hzq ⊢
              clear hW2 hown hbel hz q1 q1B q2 q2B q3 QX QY
              go_wp2_with (at_builtin; go_must (refine push2 rfl _ _ rfl W2 w5.heap.size _ Bt.length Bt (i : Int) (j : Int) rfl rfl (by exact hownq) hzq (by omega) ?_))
              intro g cap w6 own6 hgr hg6 hg7
              have hb6 : Below w5.heap.size w5 w6 := hbq.grown hgr hzq (fun y hy => (hownq.lt y hy).1)
              have own7 : w6.ownsRow w5.heap.size 34 2 (.slice (some ⟨g, 0, none⟩) (Bt.length + 1) cap) (eqA A B k i ++ selI (isEq A B) i (j + 1)).length (G2 (eqA A B k i ++ selI (isEq A B) i (j + 1))) := by
                rw [HN2.out, List.length_append]; exact own6
              clear hgr hg6 hg7 hownq hbq own6 HN2 hbw
              go_wp2
              go_roundw
              case rel => exact ⟨j + 1, by omega, by go_num, own7, hb6⟩
              case measure => simp [intOf]; omega
            · have hb2 : (x2 == y2) = false := by simp [h2]
              rw [decide_eq_true h1, decide_eq_false h2] at HPT
              have HN2 : Hid (eqA A B k i ++ selI (isEq A B) i j = eqA A B k i ++ selI (isEq A B) i (j + 1)) := by
                show _ = _
                rw [HNX.out, HPT.out]; simp
              rw [HN2.out] at hown
              clear HNX HPT h1 h2 hbw hle
              go_wp2_with fail
              go_quiet ((first | (go_at_call 27; with_reducible exact Calls.quiet_of_same (QX.out _)) | (go_at_call 27; with_reducible exact Calls.quiet_of_same (QY.out _))))
              go_wp2
              go_roundw
              case rel => exact ⟨j + 1, by omega, by go_num, hown, below_drewN hbel _⟩
              case measure => simp [intOf]; omega
          · have hb1 : (x == y1) = false := by simp [h1]
            rw [decide_eq_false h1] at HPT
            have HN2 : Hid (eqA A B k i ++ selI (isEq A B) i j = eqA A B k i ++ selI (isEq A B) i (j + 1)) := by
              show _ = _
              rw [HNX.out, HPT.out]; simp
            rw [HN2.out] at hown
            clear HNX HPT h1 hbw hle
            go_wp2_with fail
            go_quiet ((first | (go_at_call 27; with_reducible exact Calls.quiet_of_same (QX.out _)) | (go_at_call 27; with_reducible exact Calls.quiet_of_same (QY.out _))))
            go_wp2
            go_roundw
            case rel => exact ⟨j + 1, by omega, by go_num, hown, below_drewN hbel _⟩
            case measure => simp [intOf]; omega
        · obtain rfl : j = k := by omega
          rw [← HNE.out i] at hown
          go_wp2
          go_roundw
          case rel => exact ⟨i + 1, by omega, by go_num, hown, hbel⟩
          case measure => simp [intOf]; omega
    · obtain rfl : i = n := by omega
      have hz5 := HB5.out.size
      go_wp2
      go_ret
      exact ⟨_, rfl, own2_mono hown hz5, ext_trans HB5.out hbel⟩
end Go.Proofs.Ytimjepakdldacaa

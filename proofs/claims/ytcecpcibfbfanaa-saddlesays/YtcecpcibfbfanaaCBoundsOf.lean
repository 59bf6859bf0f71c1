/-
  plumeref.BoundsOf at a right table: what each is sure of; nothing that was there is written.
-/
import Derived.Test.YtcecpcibfbfanaaCColumns
import Derived.Test.YtcecpcibfbfanaaCMinMax
namespace Go.Proofs.Ytcecpcibfbfanaa
open Go.RowKit Fm
set_option linter.unusedVariables false

theorem rows_next (f : List Int → Int) (M : List (List Int)) {t : Nat} (ht : t < M.length) : (M.take (t + 1)).map f = (M.take t).map f ++ [f (M.getD t [])] := by
  have hsn : M.take (t + 1) = M.take t ++ [M.getD t []] := by
    rw [List.take_succ_eq_append_getElem ht, List.getD_eq_getElem?_getD, List.getElem?_eq_getElem ht]; rfl
  rw [hsn, List.map_append]; rfl

set_option maxHeartbeats 2000000 in
set_option maxRecDepth 100000 in
theorem boundsOf_any {r k : Nat} {M : List (List Int)} (p : Pay r k M) (a : Option Addr) (n c : Nat) (w : World) (hr : RdR w w.heap.size a n M) :
    Calls Try.prog 12 #[.slice a n c] w fun e w' => e = .returned (.tuple #[.int .i64 (loB M), .int .i64 (hiB k M)]) ∧ Below w.heap.size w w' := by
  obtain ⟨rfl, b, o, rfl, hb, hsq⟩ := rdr_sqP hr p
  have HP := Lib.hid p
  have r1 := p.r1
  have r6 := p.r6
  have k1 := p.k1
  have k6 := p.k6
  have HLM := Lib.hid p.len
  have HR := Lib.hid hr
  have QC : Hid (∀ W, Below w.heap.size w W → Calls Try.prog 13 #[.slice (some ⟨b, o, none⟩) n c] W (ColsOut k M W)) := fun W hW => columns_any p _ n c W (rdr_ext hr hW)
  have H1 : Hid (∀ x, x < n → leastI (M.getD x []) = rmin M x) := fun _ _ => rfl
  have HLO : Hid (most (M.map leastI) = loB M) := rfl
  have HHI : Hid (leastI ((colsM k M).map most) = hiB k M) := rfl
  have HCL := Lib.hid (colsM_len k M)
  have HCR : Hid (∀ l ∈ colsM k M, l.length = n) := fun l hl => by rw [colsM_rows hl, p.len]
  clear hr hsq p
  generalize loB M = lo at *
  generalize hiB k M = hi at *
  go_enter Try.func12, Try.ntmps12
  go_wp2_with fail
  go_loopw [4, 12] (fun ov xv wr => ∃ x : Nat, x ≤ n ∧ xv = .int .i64 x ∧ wr.ownsRow w.heap.size 3 1 ov x (I ((M.take x).map leastI)) ∧ Below w.heap.size w wr) (fun _ xv _ => n - (intOf xv).toNat)
  case atStart => exact ⟨0, Nat.zero_le _, rfl, World.ownsRow_nil _ _ _ _, Below.refl _ w⟩
  case round =>
    obtain ⟨x, hx, rfl, hown, hbel⟩ := hrel
    have hz := hbel.size
    by_cases hxn : x < n
    · obtain ⟨b', o', a', c', hba, hb2, hcell, hl1, _, _, hrd⟩ := HR.out.at_ hxn
      injection hba with hba
      injection hba with e1 e2
      subst e1; subst e2
      have hxM : x < M.length := by rw [HLM.out]; exact hxn
      have hrl := HP.out.row hxn
      rw [hrl] at hcell hrd hl1
      have q1 : wr.cell? ⟨b, o + x, none⟩ = some (.slice a' k c') := (hbel.cell (by show b < _; omega)).trans hcell
      have QM := Lib.hid (minI_any (M.getD x []) a' k c' wr wr.heap.size (by omega) (rd_ext hrd hbel) (by omega))
      have HNX := Lib.hid (rows_next leastI M hxM)
      have hln : ((M.take x).map leastI).length = x := by rw [List.length_map, List.length_take, HLM.out]; omega
      clear hcell hrd
      generalize leastI (M.getD x []) = z at *
      generalize (M.take x).map leastI = cl at *
      go_wp2_with fail
      refine QM.out.mono ?_
      rintro e w' ⟨rfl, rfl⟩
      clear QM
      go_wp2_with (at_builtin; go_must (refine push1 rfl _ _ rfl wr w.heap.size _ x cl z rfl rfl (by exact hown) hz (by omega) ?_))
      intro g cap w1 own1 hgr _ _
      have hb1 : Below w.heap.size w w1 := hbel.grown hgr hz (own_not hown)
      rw [← HNX.out] at own1
      clear hgr hown hbel HNX
      go_wp2
      go_roundw
      case rel => exact ⟨x + 1, by omega, by go_num, own1, hb1⟩
      case measure => simp [intOf]; omega
    · obtain rfl : x = n := by omega
      rw [List.take_of_length_le (by rw [HLM.out]; exact Nat.le_refl _)] at hown
      have hlA : (M.map leastI).length = x := by rw [List.length_map, HLM.out]
      obtain ⟨a4, c4, rfl, _, _⟩ := own_slice hown
      have R4 := Lib.hid (Rd.of_own hown)
      have QC2 := Lib.hid (QC.out wr hbel)
      clear hown QC
      go_wp2_with fail
      refine QC2.out.mono ?_
      rintro e w5 ⟨v5, rfl, m5, hb5⟩
      obtain ⟨g5, c5, rfl, _, _, _, _⟩ := m5.form (by rw [HCL.out]; omega)
      rw [HCL.out] at m5 ⊢
      have RC := Lib.hid (m5.rd HCL.out)
      have hbw5 := ext_trans hbel hb5
      have R45 := Lib.hid (rd_ext R4.out hb5)
      have HB5 := Lib.hid hbw5
      clear QC2 m5 hb5 R4 hbel
      generalize colsM k M = C at *
      go_wp2_with fail
      go_loopw [5, 25] (fun ov yv wr => ∃ y : Nat, y ≤ k ∧ yv = .int .i64 y ∧ wr.ownsRow w5.heap.size 3 1 ov y (I ((C.take y).map most)) ∧ Below w5.heap.size w5 wr) (fun _ yv _ => k - (intOf yv).toNat)
      case atStart => exact ⟨0, Nat.zero_le _, rfl, World.ownsRow_nil _ _ _ _, Below.refl _ w5⟩
      case round =>
        obtain ⟨y, hy, rfl, hown, hbel⟩ := hrel
        have hz := hbel.size
        by_cases hyk : y < k
        · obtain ⟨b', o', a', c', hba, hb2, hcell, hl1, _, _, hrd⟩ := RC.out.at_ hyk
          injection hba with hba
          injection hba with e1 e2
          subst e1; subst e2
          have hyC : y < C.length := by rw [HCL.out]; exact hyk
          have hrl := HCR.out _ (memR hyC)
          rw [hrl] at hcell hrd hl1
          have q1 : wr.cell? ⟨g5, 0 + y, none⟩ = some (.slice a' x c') := (hbel.cell (by show g5 < _; omega)).trans hcell
          rw [Nat.zero_add] at q1
          have QM := Lib.hid (maxI_any (C.getD y []) a' x c' wr wr.heap.size (by omega) (rd_ext hrd hbel) (by omega))
          have HNX := Lib.hid (rows_next most C hyC)
          have hln : ((C.take y).map most).length = y := by rw [List.length_map, List.length_take, HCL.out]; omega
          clear hcell hrd
          generalize most (C.getD y []) = z at *
          generalize (C.take y).map most = cl at *
          go_wp2_with fail
          refine QM.out.mono ?_
          rintro e w' ⟨rfl, rfl⟩
          clear QM
          go_wp2_with (at_builtin; go_must (refine push1 rfl _ _ rfl wr w5.heap.size _ y cl z rfl rfl (by exact hown) hz (by omega) ?_))
          intro g cap w1 own1 hgr _ _
          have hb1 : Below w5.heap.size w5 w1 := hbel.grown hgr hz (own_not hown)
          rw [← HNX.out] at own1
          clear hgr hown hbel HNX
          go_wp2
          go_roundw
          case rel => exact ⟨y + 1, by omega, by go_num, own1, hb1⟩
          case measure => simp [intOf]; omega
        · obtain rfl : y = k := by omega
          rw [List.take_of_length_le (by rw [HCL.out]; exact Nat.le_refl _)] at hown
          obtain ⟨a6, c6, rfl, _, _⟩ := own_slice hown
          have Q1 := Lib.hid (maxI_any (M.map leastI) a4 x c4 wr wr.heap.size (by omega) (rd_ext R45.out hbel) (by omega))
          have Q2 := Lib.hid (minI_any (C.map most) a6 y c6 wr wr.heap.size (by omega) (Rd.of_own hown) (by omega))
          rw [HLO.out] at Q1
          rw [HHI.out] at Q2
          have hbf := ext_trans HB5.out hbel
          clear hown hbel HB5 R45
          go_wp2_with fail
          refine Q1.out.mono ?_
          rintro e w' ⟨rfl, rfl⟩
          go_wp2_with fail
          refine Q2.out.mono ?_
          rintro e w' ⟨rfl, rfl⟩
          go_wp2
          go_ret2
          exact ⟨rfl, hbf⟩
end Go.Proofs.Ytcecpcibfbfanaa

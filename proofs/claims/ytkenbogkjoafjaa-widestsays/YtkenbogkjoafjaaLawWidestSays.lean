/-
  plumelaw.WidestSays returns true, for every slice of slices of ints, if package widest keeps its contracts; nothing that was there is written.
-/
import Derived.Test.YtkenbogkjoafjaaWideP
import Derived.Test.YtkenbogkjoafjaaWinPMath
import Derived.Test.YtkenbogkjoafjaaCTableErr
import Derived.Test.YtkenbogkjoafjaaCPathsOf
import Derived.Test.YtkenbogkjoafjaaCEqual
import Derived.Test.YtkenbogkjoafjaaCRows
namespace Go.Proofs.Ytkenbogkjoafjaa
open Go.RowKit Fm
set_option linter.unusedVariables false

theorem tabIn_ofW {w : World} {a : Option Addr} {M : List (List Int)} (hr : RdR w w.heap.size a M.length M) (h24 : M.length * 24 ≤ 140737488355328) (hall : ∀ l ∈ M, (∀ x ∈ l, Ok64 x) ∧ l.length * 8 ≤ 140737488355328) : TabIn w a M.length M :=
  ⟨w.heap.size, Nat.le_refl _, hr, by omega, fun l hl => by have := (hall l hl).2; omega⟩

set_option maxHeartbeats 4000000 in
set_option maxRecDepth 100000 in
theorem widestSays_is (wPE : WPathsE) (wP : WPaths) (wWE : WWinE) (wW : WWin) (v : Value) (M : List (List Int)) {w : World} (f : IsRows w v M) :
    Calls Try.prog 3 #[v] w fun e w' => e = .returned (.bool true) ∧ Below w.heap.size w w' := by
  obtain ⟨a, c, rfl, hr, hall, hlc, _, hcm, h24⟩ := f
  have TI := Lib.hid (tabIn_ofW hr h24 hall)
  have HR := Lib.hid hr
  have H8 : Hid (∀ l ∈ M, l.length ≤ 17592186044416) := fun l hl => by have := (hall l hl).2; omega
  have hm : M.length ≤ 17592186044416 := by omega
  clear hr hall
  by_cases hw : tchk M = 0
  · have HT := Lib.hid (tab_of hw)
    have HW := Lib.hid hw
    have h1 := HT.out.pos
    have h6 := HT.out.six
    obtain ⟨n, hn⟩ : ∃ n, M.length = n := ⟨_, rfl⟩
    have WP : Hid WPaths := wP
    have WW : Hid WWin := wW
    rw [hn] at TI HR HT h1 h6 hm ⊢
    have HPL := Lib.hid (pathM_len n M)
    have HPR : Hid (∀ l ∈ pathM n M, l.length = n) := fun l hl => pathM_rows hl
    have HPE : Hid (∀ x y, x < n → y < n → ent (pathM n M) x y = pathE n M x y) := fun x y hx hy => pathM_ent hx hy
    have hkn := winP_len (n := n) (M := M)
    clear hw wPE wP wWE wW hn h24 hlc
    go_enter Try.func3, Try.ntmps3
    go_wp2_with fail
    refine (WP.out a n c M w TI.out HW.out).mono ?_
    rintro e w1 ⟨a1, c1, rfl, _, _, r1, hb1⟩
    rw [HPL.out] at r1 ⊢
    go_wp2_with fail
    refine (WW.out a n c M w1 (TI.out.below hb1) HW.out).mono ?_
    rintro e w2 ⟨a2, c2, rfl, _, _, r2, hb2⟩
    have hb02 := ext_trans hb1 hb2
    have r1' := rdr_ext r1 hb2
    clear r1 hb1 hb2
    go_wp2_with fail
    refine (tableErr_any a n c M w2 w.heap.size hb02.size (HR.out.below hb02 (Nat.le_refl _)) hm H8.out).mono ?_
    rintro e w3 ⟨rfl, hb3⟩
    rw [HW.out]
    have hb03 := ext_trans hb02 hb3
    have r13 := rdr_ext r1' hb3
    have r23 := rd_ext r2 hb3
    clear r1' r2 hb3 hb02
    go_wp2_with fail
    refine (pathsOf_any HT.out a c w3 (rdr_ext HR.out hb03)).mono ?_
    rintro e w4 ⟨v4, rfl, m4, hb4⟩
    have HB04 := Lib.hid (ext_trans hb03 hb4)
    have R14 := Lib.hid (rdr_ext r13 hb4)
    have R24 := Lib.hid (rd_ext r23 hb4)
    obtain ⟨g4, c4, rfl, _, _, _, _⟩ := m4.form (by rw [HPL.out]; omega)
    rw [HPL.out] at m4 ⊢
    have rp := m4.rd HPL.out
    have RP := Lib.hid rp
    obtain ⟨b, o, hbo, hbB, sq⟩ := rdr_square rp (by omega) HPR.out
    injection hbo with hbo
    injection hbo with hbo1 hbo2
    subst hbo1
    subst hbo2
    have SQ : Hid (∀ x, x < n → ∃ bx ox cx, w4.cell? ⟨g4, x, none⟩ = some (.slice (some ⟨bx, ox, none⟩) n cx) ∧ ∀ y, y < n → w4.cell? ⟨bx, ox + y, none⟩ = some (.int .i64 (pathE n M x y)) ∧ bx < w4.heap.size) := fun x hx => by
      obtain ⟨bx, ox, cx, q1, q2, _, _, q3⟩ := sq x hx
      refine ⟨bx, ox, cx, by simpa using q1, fun y hy => ⟨?_, q2⟩⟩
      rw [q3 y hy, HPE.out x y hx hy]
    clear r13 r23 hb03 hb4 m4 rp sq
    go_wp2_with fail
    go_loopw [9, 47] (fun s9 i wr => ∃ k : Nat, k ≤ n ∧ i = .int .i64 k ∧ wr.ownsRow w4.heap.size 3 1 s9 (winTo_ n M k).length (I (winTo_ n M k)) ∧ Below w4.heap.size w4 wr) (fun _ i _ => n - (intOf i).toNat)
    case atStart => exact ⟨0, Nat.zero_le _, rfl, ⟨rfl, .inl ⟨rfl, rfl⟩⟩, Below.refl _ w4⟩
    case round =>
      obtain ⟨k, hk, rfl, ho, hbl⟩ := hrel
      have hlen := winTo_len n M k
      by_cases hkn' : k < n
      · obtain ⟨bx, ox, cx, hx1, hx2⟩ := SQ.out k hkn'
        have HX2 := Lib.hid hx2
        have HO := Lib.hid ho
        have HBL := Lib.hid hbl
        have hx3 : wr.cell? ⟨g4, k, none⟩ = some (.slice (some ⟨bx, ox, none⟩) n cx) := by rw [hbl.cell (by show g4 < _; omega)]; exact hx1
        have HX3 := Lib.hid hx3
        clear hx1 hx2 hx3 ho hbl
        obtain ⟨w5, rfl⟩ : ∃ w5, w5 = wr := ⟨_, rfl⟩
        go_wp2_with fail
        go_loopw [11, 52] (fun s11 i wr => ∃ j : Nat, j ≤ n ∧ i = .int .i64 j ∧ s11 = .bool (okTo n M k j) ∧ ∃ q, wr = w5.drewN q) (fun _ i _ => n - (intOf i).toNat)
        case atStart => exact ⟨0, Nat.zero_le _, rfl, rfl, 0, rfl⟩
        case round =>
          obtain ⟨j, hj, rfl, rfl, q, hwr⟩ := hrel
          have HWR := Lib.hid hwr
          by_cases hjn : j < n
          · obtain ⟨by_, oy, cy, hy1, hy2⟩ := SQ.out j hjn
            have c1 : wr.cell? ⟨g4, k, none⟩ = some (.slice (some ⟨bx, ox, none⟩) n cx) := by rw [hwr]; exact HX3.out
            have c2 : wr.cell? ⟨g4, j, none⟩ = some (.slice (some ⟨by_, oy, none⟩) n cy) := by rw [hwr]; show w5.cell? _ = _; rw [HBL.out.cell (by show g4 < _; omega)]; exact hy1
            have c3 : wr.cell? ⟨bx, ox + j, none⟩ = some (.int .i64 (pathE n M k j)) := by rw [hwr]; show w5.cell? _ = _; rw [HBL.out.cell (by exact (HX2.out j hjn).2)]; exact (HX2.out j hjn).1
            have c4' : wr.cell? ⟨by_, oy + k, none⟩ = some (.int .i64 (pathE n M j k)) := by rw [hwr]; show w5.cell? _ = _; rw [HBL.out.cell (by exact (hy2 k hkn').2)]; exact (hy2 k hkn').1
            have HS : Hid (okTo n M k (j + 1) = (okTo n M k j && decide (pathE n M j k ≤ pathE n M k j))) := rfl
            clear hy1 hy2 hwr
            generalize pathE n M k j = ekj at *
            generalize pathE n M j k = ejk at *
            generalize okTo n M k j = ok at *
            cases ok with
            | false =>
              go_wp2_with fail
              go_quiet (fail)
              go_wp2
              go_roundw
              case rel => exact ⟨j + 1, by omega, by go_num, by rw [HS.out]; rfl, drewW HWR.out _⟩
              case measure => simp [intOf]; omega
            | true =>
              by_cases hle : ejk ≤ ekj
              · go_wp2_with fail
                go_quiet (fail)
                go_wp2
                go_roundw
                case rel => exact ⟨j + 1, by omega, by go_num, by rw [HS.out]; simp [hle], drewW HWR.out _⟩
                case measure => simp [intOf]; omega
              · go_wp2_with fail
                go_quiet (fail)
                go_wp2
                go_roundw
                case rel => exact ⟨j + 1, by omega, by go_num, by rw [HS.out]; simp, drewW HWR.out _⟩
                case measure => simp [intOf]; omega
          · obtain rfl : j = n := by omega
            rw [okTo_win]
            have ho2 := own_drewN HO.out q
            rw [← hwr] at ho2
            have hbl2 : Below w4.heap.size w4 wr := by rw [hwr]; exact below_drewN HBL.out q
            have hz2 := hbl2.size
            clear hwr HWR
            cases hwb : winB j M k with
            | true =>
              have HY := Lib.hid (winTo_yes hwb)
              clear hwb
              go_wp2_with (at_builtin; refine push1 rfl _ _ rfl wr w4.heap.size _ (winTo_ j M k).length (winTo_ j M k) k rfl rfl (by exact ho2) hz2 (by omega) ?_)
              intro g cap w6 o6 g6 hor hlt6
              have hb6 := hbl2.grown g6 hz2 (fun b hb => (ho2.lt b hb).1)
              have o7 : w6.ownsRow w4.heap.size 3 1 (.slice (some ⟨g, 0, none⟩) ((winTo_ j M k).length + 1) cap) (winTo_ j M (k + 1)).length (I (winTo_ j M (k + 1))) := by rw [HY.out]; simpa using o6
              have HO7 := Lib.hid o7
              clear o6 g6 hor o7 ho2 hbl2
              go_wp2
              go_roundw
              case rel => exact ⟨k + 1, by omega, by go_num, HO7.out, hb6⟩
              case measure => simp [intOf]; omega
            | false =>
              have HY := Lib.hid (winTo_no hwb)
              clear hwb
              go_wp2
              go_roundw
              case rel => exact ⟨k + 1, by omega, by go_num, by rw [HY.out]; exact ho2, hbl2⟩
              case measure => simp [intOf]; omega
      · obtain rfl : k = n := by omega
        rw [winTo_end] at ho
        obtain ⟨a9, c9, rfl, _, _⟩ := own_slice ho
        have R9 := Lib.hid (Rd.of_own ho)
        have R1 := Lib.hid (rdr_ext R14.out hbl)
        have R2 := Lib.hid (rd_ext R24.out hbl)
        have R4 := Lib.hid (rdr_ext RP.out hbl)
        have hb05 := ext_trans HB04.out hbl
        clear ho hbl
        go_wp2_with fail
        refine (rows_rd (pathM k M) a1 (some ⟨g4, 0, none⟩) k c1 c4 wr wr.heap.size (by omega) (fun l hl => by rw [HPR.out l hl]; omega) R1.out R4.out).mono ?_
        rintro e w6 ⟨rfl, q, rfl⟩
        go_wp2_with fail
        refine (equal_ext (winP k M) (winP k M) a2 a9 _ c2 _ c9 (wr.drewN q) R2.out R9.out (by omega) (by omega)).mono ?_
        rintro e w7 ⟨rfl, hb7⟩
        have hb8 := ext_trans (ext_drewN hb05 q) hb7
        go_wp2
        go_ret
        exact ⟨rfl, hb8⟩
  · have hne : (tchk M != 0) = true := by simpa using hw
    go_enter Try.func3, Try.ntmps3
    go_wp2_with fail
    refine (wPE a M.length c M w TI.out hw).mono ?_
    rintro e w1 ⟨a1, c1, rfl, hb1⟩
    go_wp2_with fail
    refine (wWE a M.length c M w1 (TI.out.below hb1) hw).mono ?_
    rintro e w2 ⟨a2, c2, rfl, hb2⟩
    have hb02 := ext_trans hb1 hb2
    go_wp2_with fail
    refine (tableErr_any a M.length c M w2 w.heap.size hb02.size (HR.out.below hb02 (Nat.le_refl _)) hm H8.out).mono ?_
    rintro e w3 ⟨rfl, hb3⟩
    have hb03 := ext_trans hb02 hb3
    clear hb1 hb2 hb3 hb02 hw wPE wP wWE wW
    generalize tchk M = cc at *
    have hcc : (cc == cc) = true := by simp
    go_wp2
    go_ret
    exact ⟨rfl, hb03⟩
end Go.Proofs.Ytkenbogkjoafjaa

/-
  plumekeep.WidestThird returns true, for every slice of slices of ints, if package widest keeps its contracts; nothing that was there is written.
-/
import Derived.Test.YtkenbogkjoafjaaLawWidestOrder
namespace Go.Proofs.Ytkenbogkjoafjaa
open Go.RowKit Fm
set_option linter.unusedVariables false

/-- A right table, cell by cell. -/
def MSq (w : World) (b o n : Nat) (M : List (List Int)) : Prop := ∀ x, x < n → ∃ bx ox cx, w.cell? ⟨b, o + x, none⟩ = some (.slice (some ⟨bx, ox, none⟩) n cx) ∧ ∀ y, y < n → w.cell? ⟨bx, ox + y, none⟩ = some (.int .i64 (ent M x y))
theorem mSq_of {w : World} {n B : Nat} {a : Option Addr} {M : List (List Int)} (T : Tab n M) (hr : RdR w B a n M) : ∃ b o, a = some ⟨b, o, none⟩ ∧ MSq w b o n M := by
  obtain ⟨b, o, rfl, _, sq⟩ := rdr_square hr T.pos T.rows
  refine ⟨b, o, rfl, fun x hx => ?_⟩
  obtain ⟨bx, ox, cx, q1, _, _, _, q3⟩ := sq x hx
  exact ⟨bx, ox, cx, q1, q3⟩
theorem MSq.drew {w wr : World} {b o n : Nat} {M : List (List Int)} (h : MSq w b o n M) (hw : ∃ j, wr = w.drewN j) : MSq wr b o n M := by
  obtain ⟨j, rfl⟩ := hw
  exact h

set_option maxHeartbeats 8000000 in
set_option maxRecDepth 100000 in
theorem widestThird_is (wPE : WPathsE) (wP : WPaths) (v : Value) (M : List (List Int)) {w : World} (f : IsRows w v M) :
    Calls Try.prog 4 #[v] w fun e w' => e = .returned (.bool true) ∧ Below w.heap.size w w' := by
  obtain ⟨a, c, rfl, ti⟩ := tabIn_isRowsO f
  clear f
  have TI := Lib.hid ti
  have W0 : Hid (∀ W, Calls Try.prog 13 #[] W fun e w' => e = .returned (.bool true) ∧ Below W.heap.size W w') := fun W => wides_any wP W
  have WP : Hid WPaths := wP
  have WPE : Hid WPathsE := wPE
  clear wP wPE ti
  go_enter Try.func4, Try.ntmps4
  go_wp2_with fail
  refine (W0.out w).mono ?_
  rintro e w1 ⟨rfl, hb1⟩
  clear W0
  by_cases hw : tchk M = 0
  · have HT := Lib.hid (tab_of hw)
    have h1 := HT.out.pos
    have h6 := HT.out.six
    have q3 := WP.out a M.length c M w1 (TI.out.below hb1) hw
    obtain ⟨n, hn⟩ : ∃ n, M.length = n := ⟨_, rfl⟩
    rw [hn] at q3 TI HT h1 h6 ⊢
    have HTH : Hid (∀ x y z, x ≠ y → y ≠ z → x ≠ z → min (pathE n M x y) (pathE n M y z) ≤ pathE n M x z) := fun x y z a1 a2 a3 => path_third HT.out a1 a2 a3
    have HDU : Hid (∀ x y, y < n → ent M y x < ent M x y → ent M x y ≤ pathE n M x y) := fun x y hy h => path_duel HT.out hy h
    have HPL := Lib.hid (pathM_len n M)
    clear hw WP WPE hn
    go_wp2_with fail
    refine q3.mono ?_
    rintro e w3 ⟨a3, c3, rfl, _, _, r3, hb3⟩
    rw [HPL.out] at r3 ⊢
    clear q3
    have hb03 := ext_trans hb1 hb3
    clear hb1 hb3
    go_wp2_with fail
    refine (tableOf_any n (pathM n M) a3 c3 w3 (by omega) r3 (fun l hl => pathM_rows hl)).mono ?_
    rintro e w5 ⟨rfl, hb5⟩
    have HB05 := Lib.hid (ext_trans hb03 hb5)
    obtain ⟨b, o, rfl, sq⟩ := pSq_of (by omega) (rdr_ext r3 hb5)
    have SQ := Lib.hid sq
    obtain ⟨B, hB, hrM, _⟩ := TI.out
    obtain ⟨bm, om, rfl, sqm⟩ := mSq_of HT.out (hrM.below HB05.out hB)
    have SQM := Lib.hid sqm
    clear r3 hb03 hb5 sq sqm hrM hB TI HT
    go_wp2_with fail
    go_loopw [33] (fun i wr => ∃ x : Nat, x ≤ n ∧ i = .int .i64 x ∧ ∃ q, wr = w5.drewN q) (fun i _ => n - (intOf i).toNat)
    case atStart => exact ⟨0, Nat.zero_le _, rfl, 0, rfl⟩
    case round =>
      obtain ⟨x, hx0, rfl, hwr⟩ := hrel
      have HWR := Lib.hid hwr
      clear hwr
      by_cases hx : x < n
      · obtain ⟨wa, rfl⟩ : ∃ wa, wa = wr := ⟨_, rfl⟩
        go_wp2_with fail
        go_loopw [38] (fun i wr => ∃ y : Nat, y ≤ n ∧ i = .int .i64 y ∧ ∃ q, wr = w5.drewN q) (fun i _ => n - (intOf i).toNat)
        case atStart => exact ⟨0, Nat.zero_le _, rfl, HWR.out⟩
        case round =>
          obtain ⟨y, hy0, rfl, hwr⟩ := hrel
          have HWR2 := Lib.hid hwr
          clear hwr
          by_cases hy : y < n
          · obtain ⟨wb, rfl⟩ : ∃ wb, wb = wr := ⟨_, rfl⟩
            go_wp2_with fail
            go_loopw [43] (fun i wr => ∃ z : Nat, z ≤ n ∧ i = .int .i64 z ∧ ∃ q, wr = w5.drewN q) (fun i _ => n - (intOf i).toNat)
            case atStart => exact ⟨0, Nat.zero_le _, rfl, HWR2.out⟩
            case round =>
              obtain ⟨z, hz0, rfl, hwr⟩ := hrel
              have HWR3 := Lib.hid hwr
              clear hwr
              have sq := SQ.out.drew HWR3.out
              obtain ⟨bx, ox, cx, x1, x2⟩ := sq x hx
              by_cases hz : z < n
              · obtain ⟨by_, oy, cy, y1, y2⟩ := sq y hy
                have e1 := x2 y hy
                have e2 := x2 z hz
                have e4 := y2 z hz
                have HO := Lib.hid (HTH.out x y z)
                clear sq x2 y2
                generalize pathE n M x y = pxy at *
                generalize pathE n M x z = pxz at *
                generalize pathE n M y z = pyz at *
                by_cases k1 : x = y
                · have d1 : ((x : Int) != (y : Int)) = false := by simp; omega
                  clear k1 HO
                  go_wp2_with fail
                  go_quiet (fail)
                  go_wp2
                  go_roundw
                  case rel => exact ⟨z + 1, by omega, by go_num, drewO HWR3.out _⟩
                  case measure => simp [intOf]; omega
                · have d1 : ((x : Int) != (y : Int)) = true := by simp; omega
                  by_cases k2 : y = z
                  · have d2 : ((y : Int) != (z : Int)) = false := by simp; omega
                    clear k1 k2 HO
                    go_wp2_with fail
                    go_quiet (fail)
                    go_wp2
                    go_roundw
                    case rel => exact ⟨z + 1, by omega, by go_num, drewO HWR3.out _⟩
                    case measure => simp [intOf]; omega
                  · have d2 : ((y : Int) != (z : Int)) = true := by simp; omega
                    by_cases k3 : x = z
                    · have d3 : ((x : Int) != (z : Int)) = false := by simp; omega
                      clear k1 k2 k3 HO
                      go_wp2_with fail
                      go_quiet (fail)
                      go_wp2
                      go_roundw
                      case rel => exact ⟨z + 1, by omega, by go_num, drewO HWR3.out _⟩
                      case measure => simp [intOf]; omega
                    · have d3 : ((x : Int) != (z : Int)) = true := by simp; omega
                      have k4 : ¬ pxz < min pxy pyz := by have := HO.out k1 k2 k3; omega
                      have k5 : ¬ pxz < (if pyz < pxy then pyz else pxy) := by have := HO.out k1 k2 k3; split <;> omega
                      clear k1 k2 k3 HO
                      go_wp2_with fail
                      go_quiet (fail)
                      go_wp2
                      go_roundw
                      case rel => exact ⟨z + 1, by omega, by go_num, drewO HWR3.out _⟩
                      case measure => simp [intOf]; omega
              · have sqm := SQM.out.drew HWR3.out
                obtain ⟨mx, px, ex, m1, m2⟩ := sqm x hx
                obtain ⟨my, py, ey, m3, m4⟩ := sqm y hy
                have f1 := m2 y hy
                have f2 := m4 x hx
                have e1 := x2 y hy
                have e0 := x2 x hx
                rw [path_diag] at e0
                have HD := Lib.hid (HDU.out x y hy)
                have h0 := path_nonneg (n := n) (M := M) x y
                have HXX : Hid (x = y → pathE n M x y = 0) := fun h => by rw [h, path_diag]
                clear sq x2 sqm m2 m4
                generalize pathE n M x y = pxy at *
                generalize ent M x y = mxy at *
                generalize ent M y x = myx at *
                have g0 : decide (pxy < 0) = false := decide_eq_false (by omega)
                by_cases k1 : x = y
                · have d1 : ((x : Int) != (y : Int)) = false := by simp; omega
                  clear k1 HD HXX
                  go_wp2_with fail
                  go_quiet (fail)
                  go_wp2
                  go_roundw
                  case rel => exact ⟨y + 1, by omega, by go_num, drewO HWR3.out _⟩
                  case measure => simp [intOf]; omega
                · have d1 : ((x : Int) != (y : Int)) = true := by simp; omega
                  by_cases k2 : myx < mxy
                  · have g1 : decide (pxy < mxy) = false := decide_eq_false (by have := HD.out k2; omega)
                    clear k1 HD HXX
                    go_wp2_with fail
                    go_quiet (fail)
                    go_wp2
                    go_roundw
                    case rel => exact ⟨y + 1, by omega, by go_num, drewO HWR3.out _⟩
                    case measure => simp [intOf]; omega
                  · have g1 : decide (myx < mxy) = false := decide_eq_false k2
                    clear k1 k2 HD HXX
                    go_wp2_with fail
                    go_quiet (fail)
                    go_wp2
                    go_roundw
                    case rel => exact ⟨y + 1, by omega, by go_num, drewO HWR3.out _⟩
                    case measure => simp [intOf]; omega
          · go_wp2
            go_roundw
            case rel => exact ⟨x + 1, by omega, by go_num, HWR2.out⟩
            case measure => simp [intOf]; omega
      · go_wp2
        go_ret
        obtain ⟨q, hq⟩ := HWR.out
        exact ⟨rfl, by rw [hq]; exact ext_drewN HB05.out q⟩
  · have hne : (tchk M != 0) = true := by simpa using hw
    have q3 := WPE.out a M.length c M w1 (TI.out.below hb1) hw
    clear hw WP WPE
    generalize tchk M = cc at *
    go_wp2_with fail
    refine q3.mono ?_
    rintro e w3 ⟨a3, c3, rfl, hb3⟩
    have hb03 := ext_trans hb1 hb3
    clear q3 hb1 hb3 TI
    go_wp2
    go_ret
    exact ⟨rfl, hb03⟩
end Go.Proofs.Ytkenbogkjoafjaa

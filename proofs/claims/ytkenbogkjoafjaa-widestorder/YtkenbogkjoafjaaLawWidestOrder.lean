/-
  plumekeep.WidestOrder returns true, for every slice of slices of ints, if package widest keeps its contracts; nothing that was there is written.
-/
import Derived.Test.YtkenbogkjoafjaaCWides
import Derived.BigQuiet
import Derived.Deep.QuietTactic
namespace Go.Proofs.Ytkenbogkjoafjaa
open Go.RowKit Fm
set_option linter.unusedVariables false

theorem tabIn_isRowsO {w : World} {v : Value} {M : List (List Int)} (f : IsRows w v M) : ∃ a c, v = .slice a M.length c ∧ TabIn w a M.length M := by
  obtain ⟨a, c, rfl, hr, hall, _, _, _, h24⟩ := f
  exact ⟨a, c, rfl, w.heap.size, Nat.le_refl _, hr, by omega, fun l hl => by have := (hall l hl).2; omega⟩
theorem drewO {w wr : World} (h : ∃ j, wr = w.drewN j) (k : Nat) : ∃ m, wr.drewN k = w.drewN m := by
  obtain ⟨j, h⟩ := h
  exact ⟨j + k, by rw [h, World.drewN_drewN]⟩
/-- The table of paths, cell by cell. -/
def PSq (w : World) (b o n : Nat) (M : List (List Int)) : Prop := ∀ x, x < n → ∃ bx ox cx, w.cell? ⟨b, o + x, none⟩ = some (.slice (some ⟨bx, ox, none⟩) n cx) ∧ ∀ y, y < n → w.cell? ⟨bx, ox + y, none⟩ = some (.int .i64 (pathE n M x y))
theorem pSq_of {w : World} {n : Nat} {a : Option Addr} {M : List (List Int)} (hn : 0 < n) (hr : RdR w w.heap.size a n (pathM n M)) : ∃ b o, a = some ⟨b, o, none⟩ ∧ PSq w b o n M := by
  obtain ⟨b, o, rfl, _, sq⟩ := rdr_square hr hn (fun l hl => pathM_rows hl)
  refine ⟨b, o, rfl, fun x hx => ?_⟩
  obtain ⟨bx, ox, cx, q1, _, _, _, q3⟩ := sq x hx
  exact ⟨bx, ox, cx, q1, fun y hy => by rw [q3 y hy, pathM_ent hx hy]⟩
theorem PSq.drew {w wr : World} {b o n : Nat} {M : List (List Int)} (h : PSq w b o n M) (hw : ∃ j, wr = w.drewN j) : PSq wr b o n M := by
  obtain ⟨j, rfl⟩ := hw
  exact h

set_option maxHeartbeats 4000000 in
set_option maxRecDepth 100000 in
theorem widestOrder_is (wPE : WPathsE) (wP : WPaths) (wWE : WWinE) (wW : WWin) (v : Value) (M : List (List Int)) {w : World} (f : IsRows w v M) :
    Calls Try.prog 5 #[v] w fun e w' => e = .returned (.bool true) ∧ Below w.heap.size w w' := by
  obtain ⟨a, c, rfl, ti⟩ := tabIn_isRowsO f
  clear f
  have TI := Lib.hid ti
  have W0 : Hid (∀ W, Calls Try.prog 13 #[] W fun e w' => e = .returned (.bool true) ∧ Below W.heap.size W w') := fun W => wides_any wP W
  have WP : Hid WPaths := wP
  have WPE : Hid WPathsE := wPE
  have WW : Hid WWin := wW
  have WWE : Hid WWinE := wWE
  clear wP wPE wWE wW ti
  go_enter Try.func5, Try.ntmps5
  go_wp2_with fail
  refine (W0.out w).mono ?_
  rintro e w1 ⟨rfl, hb1⟩
  clear W0
  by_cases hw : tchk M = 0
  · have HT := Lib.hid (tab_of hw)
    have h1 := HT.out.pos
    have h6 := HT.out.six
    have q3 := WP.out a M.length c M w1 (TI.out.below hb1) hw
    have Q4 : Hid (∀ W, Below w.heap.size w W → Calls Try.prog 8 #[.slice a M.length c] W (IntsOut (winP M.length M) W)) := fun W hW => WW.out a M.length c M W (TI.out.below hW) hw
    have hwl := winP_len (n := M.length) (M := M)
    have hwp : 0 < (winP M.length M).length := by
      rcases Nat.eq_zero_or_pos (winP M.length M).length with h | h
      · exact absurd (List.eq_nil_of_length_eq_zero h) (winP_ne HT.out)
      · exact h
    obtain ⟨n, hn⟩ : ∃ n, M.length = n := ⟨_, rfl⟩
    rw [hn] at q3 TI HT h1 h6 hwl hwp ⊢
    have Q4' : Hid (∀ W, Below w.heap.size w W → Calls Try.prog 8 #[.slice a n c] W (IntsOut (winP n M) W)) := by rw [← hn]; exact Q4
    have HORD : Hid (∀ x y z, pathE n M y x < pathE n M x y → pathE n M z y < pathE n M y z → pathE n M z x < pathE n M x z) := fun x y z => path_order HT.out
    have HPL := Lib.hid (pathM_len n M)
    generalize winP n M = wl at *
    clear hw WP WPE WW WWE Q4 hn HT
    go_wp2_with fail
    refine q3.mono ?_
    rintro e w3 ⟨a3, c3, rfl, _, _, r3, hb3⟩
    rw [HPL.out] at r3 ⊢
    clear q3
    have hb03 := ext_trans hb1 hb3
    go_wp2_with fail
    refine (Q4'.out w3 hb03).mono ?_
    rintro e w4 ⟨a4, c4, rfl, _, _, r4, hb4⟩
    have hb04 := ext_trans hb03 hb4
    have r34 := rdr_ext r3 hb4
    clear Q4' hb1 hb3 hb03 hb4 r3 r4 TI
    go_wp2_with fail
    refine (tableOf_any n (pathM n M) a3 c3 w4 (by omega) r34 (fun l hl => pathM_rows hl)).mono ?_
    rintro e w5 ⟨rfl, hb5⟩
    have HB05 := Lib.hid (ext_trans hb04 hb5)
    obtain ⟨b, o, rfl, sq⟩ := pSq_of (by omega) (rdr_ext r34 hb5)
    have SQ := Lib.hid sq
    clear r34 hb04 hb5 sq
    go_wp2_with fail
    go_loopw [45] (fun i wr => ∃ x : Nat, x ≤ n ∧ i = .int .i64 x ∧ ∃ q, wr = w5.drewN q) (fun i _ => n - (intOf i).toNat)
    case atStart => exact ⟨0, Nat.zero_le _, rfl, 0, rfl⟩
    case round =>
      obtain ⟨x, hx0, rfl, hwr⟩ := hrel
      have HWR := Lib.hid hwr
      clear hwr
      by_cases hx : x < n
      · obtain ⟨wa, rfl⟩ : ∃ wa, wa = wr := ⟨_, rfl⟩
        go_wp2_with fail
        go_loopw [50] (fun i wr => ∃ y : Nat, y ≤ n ∧ i = .int .i64 y ∧ ∃ q, wr = w5.drewN q) (fun i _ => n - (intOf i).toNat)
        case atStart => exact ⟨0, Nat.zero_le _, rfl, HWR.out⟩
        case round =>
          obtain ⟨y, hy0, rfl, hwr⟩ := hrel
          have HWR2 := Lib.hid hwr
          clear hwr
          by_cases hy : y < n
          · obtain ⟨wb, rfl⟩ : ∃ wb, wb = wr := ⟨_, rfl⟩
            go_wp2_with fail
            go_loopw [55] (fun i wr => ∃ z : Nat, z ≤ n ∧ i = .int .i64 z ∧ ∃ q, wr = w5.drewN q) (fun i _ => n - (intOf i).toNat)
            case atStart => exact ⟨0, Nat.zero_le _, rfl, HWR2.out⟩
            case round =>
              obtain ⟨z, hz0, rfl, hwr⟩ := hrel
              have HWR3 := Lib.hid hwr
              clear hwr
              by_cases hz : z < n
              · have sq := SQ.out.drew HWR3.out
                obtain ⟨bx, ox, cx, x1, x2⟩ := sq x hx
                obtain ⟨by_, oy, cy, y1, y2⟩ := sq y hy
                obtain ⟨bz, oz, cz, z1, z2⟩ := sq z hz
                have e1 := x2 y hy
                have e2 := x2 z hz
                have e3 := y2 x hx
                have e4 := y2 z hz
                have e5 := z2 x hx
                have e6 := z2 y hy
                have HO := Lib.hid (HORD.out x y z)
                clear sq x2 y2 z2
                generalize pathE n M x y = pxy at *
                generalize pathE n M x z = pxz at *
                generalize pathE n M y x = pyx at *
                generalize pathE n M y z = pyz at *
                generalize pathE n M z x = pzx at *
                generalize pathE n M z y = pzy at *
                by_cases k1 : pyx < pxy
                · by_cases k2 : pzy < pyz
                  · have k3 : ¬ pxz ≤ pzx := by have := HO.out k1 k2; omega
                    clear HO
                    go_wp2_with fail
                    go_quiet (fail)
                    go_wp2
                    go_roundw
                    case rel => exact ⟨z + 1, by omega, by go_num, drewO HWR3.out _⟩
                    case measure => simp [intOf]; omega
                  · have d2 : decide (pzy < pyz) = false := decide_eq_false k2
                    clear HO k2
                    go_wp2_with fail
                    go_quiet (fail)
                    go_wp2
                    go_roundw
                    case rel => exact ⟨z + 1, by omega, by go_num, drewO HWR3.out _⟩
                    case measure => simp [intOf]; omega
                · have d1 : decide (pyx < pxy) = false := decide_eq_false k1
                  clear HO k1
                  go_wp2_with fail
                  go_quiet (fail)
                  go_wp2
                  go_roundw
                  case rel => exact ⟨z + 1, by omega, by go_num, drewO HWR3.out _⟩
                  case measure => simp [intOf]; omega
              · go_wp2
                go_roundw
                case rel => exact ⟨y + 1, by omega, by go_num, HWR3.out⟩
                case measure => simp [intOf]; omega
          · go_wp2
            go_roundw
            case rel => exact ⟨x + 1, by omega, by go_num, HWR2.out⟩
            case measure => simp [intOf]; omega
      · have hgt : (0 : Int) < (wl.length : Int) := by omega
        go_wp2
        go_ret
        obtain ⟨q, hq⟩ := HWR.out
        exact ⟨rfl, by rw [hq]; exact ext_drewN HB05.out q⟩
  · have hne : (tchk M != 0) = true := by simpa using hw
    have q3 := WPE.out a M.length c M w1 (TI.out.below hb1) hw
    have Q4 : Hid (∀ W, Below w.heap.size w W → Calls Try.prog 8 #[.slice a M.length c] W (ErrOut (tchk M) W)) := fun W hW => WWE.out a M.length c M W (TI.out.below hW) hw
    clear hw WP WPE WW WWE
    generalize tchk M = cc at *
    have hcc : (cc == cc) = true := by simp
    go_wp2_with fail
    refine q3.mono ?_
    rintro e w3 ⟨a3, c3, rfl, hb3⟩
    have hb03 := ext_trans hb1 hb3
    go_wp2_with fail
    refine (Q4.out w3 hb03).mono ?_
    rintro e w4 ⟨a4, c4, rfl, hb4⟩
    have hb04 := ext_trans hb03 hb4
    clear q3 Q4 hb1 hb3 hb03 hb4 TI
    go_wp2
    go_ret
    exact ⟨rfl, hb04⟩
end Go.Proofs.Ytkenbogkjoafjaa

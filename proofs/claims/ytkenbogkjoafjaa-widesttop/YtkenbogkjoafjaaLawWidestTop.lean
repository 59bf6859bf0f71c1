/-
  plumekeep.WidestTop returns true, for every slice of slices of ints, if packages widest and duel keep their contracts; nothing that was there is written.
-/
import Derived.Test.YtkenbogkjoafjaaCWides
import Derived.Test.YtkenbogkjoafjaaCDuels0
import Derived.Test.YtkenbogkjoafjaaCContains
namespace Go.Proofs.Ytkenbogkjoafjaa
open Go.RowKit Fm
set_option linter.unusedVariables false

theorem tabIn_isRowsW {w : World} {v : Value} {M : List (List Int)} (f : IsRows w v M) : ∃ a c, v = .slice a M.length c ∧ TabIn w a M.length M := by
  obtain ⟨a, c, rfl, hr, hall, _, _, _, h24⟩ := f
  exact ⟨a, c, rfl, w.heap.size, Nat.le_refl _, hr, by omega, fun l hl => by have := (hall l hl).2; omega⟩

set_option maxHeartbeats 4000000 in
set_option maxRecDepth 100000 in
theorem widestTop_is (wP : WPaths) (wWE : WWinE) (wW : WWin) (dW : DWins) (dT : DTop) (dTE : DTopE) (v : Value) (M : List (List Int)) {w : World} (f : IsRows w v M) :
    Calls Try.prog 6 #[v] w fun e w' => e = .returned (.bool true) ∧ Below w.heap.size w w' := by
  obtain ⟨a, c, rfl, ti⟩ := tabIn_isRowsW f
  clear f
  have TI := Lib.hid ti
  have W0 : Hid (∀ W, Calls Try.prog 13 #[] W fun e w' => e = .returned (.bool true) ∧ Below W.heap.size W w') := fun W => wides_any wP W
  have D0 : Hid (∀ W, Calls Try.prog 15 #[] W fun e w' => e = .returned (.bool true) ∧ Below W.heap.size W w') := fun W => duels0_any dW dT W
  have WW : Hid WWin := wW
  have WWE : Hid WWinE := wWE
  have DT : Hid DTop := dT
  have DTE : Hid DTopE := dTE
  clear wP wWE wW dW dT dTE ti
  go_enter Try.func6, Try.ntmps6
  go_wp2_with fail
  refine (W0.out w).mono ?_
  rintro e w1 ⟨rfl, hb1⟩
  go_wp2_with fail
  refine (D0.out w1).mono ?_
  rintro e w2 ⟨rfl, hb2⟩
  have hb02 := ext_trans hb1 hb2
  clear W0 D0 hb1 hb2
  by_cases hw : tchk M = 0
  · have HT := Lib.hid (tab_of hw)
    have h1 := HT.out.pos
    have h6 := HT.out.six
    have HONE := Lib.hid (win_one HT.out)
    have HIN : Hid (∀ x ∈ winP M.length M, x ∈ topL M.length M) := fun x hx => win_top HT.out hx
    have q3 := WW.out a M.length c M w2 (TI.out.below hb02) hw
    have Q4 : Hid (∀ W, Below w.heap.size w W → Calls Try.prog 16 #[.slice a M.length c] W (IntsOut (topL M.length M) W)) := fun W hW => DT.out a M.length c M W (TI.out.below hW) hw
    have hwl := winP_len (n := M.length) (M := M)
    have htl : (topL M.length M).length ≤ M.length := by unfold topL; rw [List.length_map]; exact Nat.le_trans (List.length_filter_le _ _) (by simp)
    generalize winP M.length M = wl at *
    generalize topL M.length M = tl at *
    clear hw WW WWE DT DTE HT
    go_wp2_with fail
    refine q3.mono ?_
    rintro e w3 ⟨a3, c3, rfl, _, _, r3, hb3⟩
    clear q3
    have hb03 := ext_trans hb02 hb3
    go_wp2_with fail
    refine (Q4.out w3 hb03).mono ?_
    rintro e w4 ⟨a4, c4, rfl, _, _, r4, hb4⟩
    have hb04 := ext_trans hb03 hb4
    have R3 := Lib.hid (rd_ext r3 hb4)
    have R4 := Lib.hid r4
    clear Q4 hb02 hb3 hb03 hb4 r3 r4 TI
    go_wp2_with fail
    go_loopw [36] (fun i wr => ∃ k : Nat, k ≤ wl.length ∧ i = .int .i64 k ∧ wr = w4) (fun i _ => wl.length - (intOf i).toNat)
    case atStart => exact ⟨0, Nat.zero_le _, rfl, rfl⟩
    case round =>
      obtain ⟨k, hk, rfl, rfl⟩ := hrel
      by_cases hkl : k < wl.length
      · obtain ⟨b, o, rfl, hb, hc⟩ := R3.out.at_ hkl
        have hmem : wl.getD k 0 ∈ wl := getD_mem wl k hkl
        have QC := Lib.hid (contains_q tl (wl.getD k 0) a4 tl.length c4 wr wr.heap.size R4.out (by omega) true (decide_eq_true (HIN.out _ hmem)))
        clear hmem
        generalize wl.getD k 0 = x at *
        go_wp2_with fail
        refine QC.out.mono ?_
        rintro e w5 ⟨rfl, rfl⟩
        go_wp2
        go_roundw
        case rel => exact ⟨k + 1, by omega, by go_num, by first | trivial | rfl⟩
        case measure => simp [intOf]; omega
      · by_cases ht : tl.length = 1
        · have hwt := HONE.out ht
          subst hwt
          have hne : ((wl.length : Int) != 1) = false := by simp; omega
          have QE := Lib.hid (equal_ext wl wl a3 a4 wl.length c3 wl.length c4 wr R3.out R4.out (by omega) (by omega))
          clear ht
          go_wp2_with fail
          refine QE.out.mono ?_
          rintro e w5 ⟨rfl, hb5⟩
          have hb05 := ext_trans hb04 hb5
          go_wp2
          go_ret
          exact ⟨by simp, hb05⟩
        · have hne : ((tl.length : Int) != 1) = true := by simp; omega
          clear ht
          go_wp2
          go_ret
          exact ⟨rfl, hb04⟩
  · have hne : (tchk M != 0) = true := by simpa using hw
    have q3 := WWE.out a M.length c M w2 (TI.out.below hb02) hw
    have Q4 : Hid (∀ W, Below w.heap.size w W → Calls Try.prog 16 #[.slice a M.length c] W (ErrOut (tchk M) W)) := fun W hW => DTE.out a M.length c M W (TI.out.below hW) hw
    clear hw WW WWE DT DTE
    generalize tchk M = cc at *
    have hcc : (cc == cc) = true := by simp
    go_wp2_with fail
    refine q3.mono ?_
    rintro e w3 ⟨a3, c3, rfl, hb3⟩
    have hb03 := ext_trans hb02 hb3
    go_wp2_with fail
    refine (Q4.out w3 hb03).mono ?_
    rintro e w4 ⟨a4, c4, rfl, hb4⟩
    have hb04 := ext_trans hb03 hb4
    clear q3 Q4 hb02 hb3 hb03 hb4 TI
    go_wp2
    go_ret
    exact ⟨rfl, hb04⟩
end Go.Proofs.Ytkenbogkjoafjaa

/-
  plumelaw.DuelSays returns true, for every slice of slices of ints, if package duel keeps its contracts; nothing that was there is written.
-/
import Derived.Test.YtbmefccljbndeaaDuelP
import Derived.Test.YtbmefccljbndeaaCTableErr
import Derived.Test.YtbmefccljbndeaaCTopOf
import Derived.Test.YtbmefccljbndeaaCWinsOf
import Derived.Test.YtbmefccljbndeaaCEqual
namespace Go.Proofs.Ytbmefccljbndeaa
open Go.RowKit Fm
set_option linter.unusedVariables false

theorem tabIn_of {w : World} {a : Option Addr} {M : List (List Int)} (hr : RdR w w.heap.size a M.length M) (h24 : M.length * 24 ≤ 140737488355328) (hall : ∀ l ∈ M, (∀ x ∈ l, Ok64 x) ∧ l.length * 8 ≤ 140737488355328) : TabIn w a M.length M :=
  ⟨w.heap.size, Nat.le_refl _, hr, by omega, fun l hl => by have := (hall l hl).2; omega⟩
theorem topL_len (n : Nat) (M : List (List Int)) : (topL n M).length ≤ n := by
  unfold topL; rw [List.length_map]; exact Nat.le_trans (List.length_filter_le _ _) (by simp)

set_option maxHeartbeats 4000000 in
set_option maxRecDepth 100000 in
theorem duelSays_is (dC : DCheck) (dWE : DWinsE) (dW : DWins) (dRE : DWorstE) (dR : DWorst) (dTE : DTopE) (dT : DTop) (v : Value) (M : List (List Int)) {w : World} (f : IsRows w v M) :
    Calls Try.prog 3 #[v] w fun e w' => e = .returned (.bool true) ∧ Below w.heap.size w w' := by
  obtain ⟨a, c, rfl, hr, hall, hlc, _, hcm, h24⟩ := f
  have TI := Lib.hid (tabIn_of hr h24 hall)
  have HR := Lib.hid hr
  have H8 : Hid (∀ l ∈ M, l.length ≤ 17592186044416) := fun l hl => by have := (hall l hl).2; omega
  have hm : M.length ≤ 17592186044416 := by omega
  have DC : Hid DCheck := dC
  clear hr hall dC
  by_cases hw : tchk M = 0
  · have HT := Lib.hid (tab_of hw)
    have HW := Lib.hid hw
    have h1 := HT.out.pos
    have h6 := HT.out.six
    obtain ⟨n, hn⟩ : ∃ n, M.length = n := ⟨_, rfl⟩
    have hwl : (winsL n M).length = n := by simp [winsL, sides_len]
    have hrl : (worstL n M).length = n := by simp [worstL, sides_len]
    obtain ⟨k, hk⟩ : ∃ k, (topL n M).length = k := ⟨_, rfl⟩
    have htl : k ≤ n := by rw [← hk]; exact topL_len n M
    have DW : Hid DWins := dW
    have DR : Hid DWorst := dR
    have DT : Hid DTop := dT
    rw [hn] at TI HR HT h1 h6 hm ⊢
    have HK := Lib.hid hk
    have HWL := Lib.hid hwl
    have HRL := Lib.hid hrl
    clear hw dWE dW dRE dR dTE dT hn hk hwl hrl h24 hlc
    go_enter Try.func3, Try.ntmps3
    go_wp2_with fail
    refine (DW.out a n c M w TI.out HW.out).mono ?_
    rintro e w1 ⟨a1, c1, rfl, _, _, r1, hb1⟩
    rw [HWL.out] at r1 ⊢
    go_wp2_with fail
    refine (DR.out a n c M w1 (TI.out.below hb1) HW.out).mono ?_
    rintro e w2 ⟨a2, c2, rfl, _, _, r2, hb2⟩
    rw [HRL.out] at r2 ⊢
    have hb02 := ext_trans hb1 hb2
    have r1' := rd_ext r1 hb2
    clear r1 hb1 hb2
    go_wp2_with fail
    refine (DT.out a n c M w2 (TI.out.below hb02) HW.out).mono ?_
    rintro e w3 ⟨a3, c3, rfl, _, _, r3, hb3⟩
    rw [HK.out] at r3 ⊢
    have hb03 := ext_trans hb02 hb3
    have R1 := Lib.hid (rd_ext r1' hb3)
    have R2 := Lib.hid (rd_ext r2 hb3)
    have R3 := Lib.hid r3
    clear r1' r2 r3 hb3 hb02
    go_wp2_with fail
    refine (tableErr_any a n c M w3 w.heap.size hb03.size (HR.out.below hb03 (Nat.le_refl _)) hm H8.out).mono ?_
    rintro e w4 ⟨rfl, hb4⟩
    rw [HW.out]
    have hb04 := ext_trans hb03 hb4
    go_wp2_with fail
    refine (DC.out a n c M w4 (TI.out.below hb04)).mono ?_
    rintro e w5 ⟨rfl, hb5⟩
    rw [HW.out]
    have hb05 := ext_trans hb04 hb5
    have hb35 := ext_trans hb4 hb5
    clear hb4 hb5 hb04
    go_wp2_with fail
    refine (winsOf_any h1 (by omega) a c M w5 w.heap.size hb05.size (HR.out.below hb05 (Nat.le_refl _)) HT.out.rows HT.out.bd).mono ?_
    rintro e w6 ⟨_, _, rfl, ga, gb, rfl, rfl, hne, oa, ob, hb6⟩
    have hb06 := ext_trans hb05 hb6
    have hb36 := ext_trans hb35 hb6
    have RA := Lib.hid (Rd.of_own oa)
    have RB := Lib.hid (Rd.of_own ob)
    clear oa ob hb6 hb05 hb35
    go_wp2_with fail
    refine (equal_ext (winsL n M) (winsL n M) a1 (some ⟨ga, 0, none⟩) n c1 n n w6 (rd_ext R1.out hb36) RA.out (by omega) (by omega)).mono ?_
    rintro e w7 ⟨rfl, hb7⟩
    have hb07 := ext_trans hb06 hb7
    have hb37 := ext_trans hb36 hb7
    have RB7 := Lib.hid (rd_ext RB.out hb7)
    clear RA RB hb7 hb06 hb36
    go_wp2_with fail
    refine (equal_ext (worstL n M) (worstL n M) a2 (some ⟨gb, 0, none⟩) n c2 n n w7 (rd_ext R2.out hb37) RB7.out (by omega) (by omega)).mono ?_
    rintro e w8 ⟨rfl, hb8⟩
    have hb08 := ext_trans hb07 hb8
    have hb38 := ext_trans hb37 hb8
    clear RB7 hb8 hb07 hb37
    go_wp2_with fail
    refine (topOf_any a c M w8 w.heap.size hb08.size (HR.out.below hb08 (Nat.le_refl _)) HT.out).mono ?_
    rintro e w9 ⟨g9, c9, rfl, o9, hb9⟩
    rw [HK.out] at o9 ⊢
    have hb09 := ext_trans hb08 hb9
    have R9 := Lib.hid (Rd.of_own o9)
    have R3' := Lib.hid (rd_ext R3.out (ext_trans hb38 hb9))
    clear o9 hb9 hb38 hb08
    go_wp2_with fail
    refine (equal_ext (topL n M) (topL n M) a3 (some ⟨g9, 0, none⟩) k c3 k c9 w9 R3'.out R9.out (by omega) (by omega)).mono ?_
    rintro e w10 ⟨rfl, hb10⟩
    have hb00 := ext_trans hb09 hb10
    clear hb10 hb09
    go_wp2
    go_ret
    exact ⟨rfl, hb00⟩
  · have hne : (tchk M != 0) = true := by simpa using hw
    go_enter Try.func3, Try.ntmps3
    go_wp2_with fail
    refine (dWE a M.length c M w TI.out hw).mono ?_
    rintro e w1 ⟨a1, c1, rfl, hb1⟩
    go_wp2_with fail
    refine (dRE a M.length c M w1 (TI.out.below hb1) hw).mono ?_
    rintro e w2 ⟨a2, c2, rfl, hb2⟩
    have hb02 := ext_trans hb1 hb2
    go_wp2_with fail
    refine (dTE a M.length c M w2 (TI.out.below hb02) hw).mono ?_
    rintro e w3 ⟨a3, c3, rfl, hb3⟩
    have hb03 := ext_trans hb02 hb3
    go_wp2_with fail
    refine (tableErr_any a M.length c M w3 w.heap.size hb03.size (HR.out.below hb03 (Nat.le_refl _)) hm H8.out).mono ?_
    rintro e w4 ⟨rfl, hb4⟩
    have hb04 := ext_trans hb03 hb4
    go_wp2_with fail
    refine (DC.out a M.length c M w4 (TI.out.below hb04)).mono ?_
    rintro e w5 ⟨rfl, hb5⟩
    have hb05 := ext_trans hb04 hb5
    clear hb1 hb2 hb3 hb4 hb5 hb02 hb03 hb04 hw dWE dW dRE dR dTE dT DC
    generalize tchk M = cc at *
    go_wp2
    go_ret
    exact ⟨rfl, hb05⟩
end Go.Proofs.Ytbmefccljbndeaa

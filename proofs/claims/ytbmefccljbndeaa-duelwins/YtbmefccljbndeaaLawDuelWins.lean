/-
  plumekeep.DuelWins returns true, for every slice of slices of ints, if package duel keeps its contracts; nothing that was there is written.
-/
import Derived.Test.YtbmefccljbndeaaLawDuelWorst
import Derived.Test.YtbmefccljbndeaaCContains
namespace Go.Proofs.Ytbmefccljbndeaa
open Go.RowKit Fm
set_option linter.unusedVariables false

theorem sum_bd (M : List (List Int)) (n k : Nat) (h : n ≤ 6) : -(6 * k : Int) ≤ sumTo (fun x => winTo M x n) k ∧ sumTo (fun x => winTo M x n) k ≤ 6 * k := by
  induction k with
  | zero => simp [sumTo]
  | succ k ih =>
    have := winTo_bd M k n
    simp only [sumTo]
    omega

set_option maxHeartbeats 4000000 in
set_option maxRecDepth 100000 in
theorem duelWins_is (dW : DWins) (dT : DTop) (dWE : DWinsE) (dTE : DTopE) (v : Value) (M : List (List Int)) {w : World} (f : IsRows w v M) :
    Calls Try.prog 6 #[v] w fun e w' => e = .returned (.bool true) ∧ Below w.heap.size w w' := by
  obtain ⟨a, c, rfl, ti⟩ := tabIn_isRows f
  clear f
  have TI := Lib.hid ti
  have D0 : Hid (∀ W, Calls Try.prog 24 #[] W fun e w' => e = .returned (.bool true) ∧ Below W.heap.size W w') := fun W => duels0_any dW dT W
  have DW : Hid DWins := dW
  have DWE : Hid DWinsE := dWE
  have DT : Hid DTop := dT
  have DTE : Hid DTopE := dTE
  clear dW dT dWE dTE ti
  go_enter Try.func6, Try.ntmps6
  go_wp2_with fail
  refine (D0.out w).mono ?_
  rintro e w1 ⟨rfl, hb1⟩
  have HB1 := Lib.hid hb1
  clear hb1
  go_wp2_with fail
  by_cases hw : tchk M = 0
  · have HT := Lib.hid (tab_of hw)
    have q2 := DW.out a M.length c M w1 (TI.out.below HB1.out) hw
    have q3 : ∀ W, Below w.heap.size w W → Calls Try.prog 11 #[.slice a M.length c] W (IntsOut (topL M.length M) W) := fun W hW => DT.out a M.length c M W (TI.out.below hW) hw
    obtain ⟨n, hn⟩ : ∃ n, M.length = n := ⟨_, rfl⟩
    have hrl : (winsL n M).length = n := by simp [winsL, sides_len]
    rw [hn] at q2 q3 TI HT ⊢
    obtain ⟨k, hk⟩ : ∃ k, (topL n M).length = k := ⟨_, rfl⟩
    have HK := Lib.hid hk
    have hkn : k ≤ n := by rw [← hk]; unfold topL; rw [List.length_map]; exact Nat.le_trans (List.length_filter_le _ _) (by simp)
    have h1 := HT.out.pos
    have h6 := HT.out.six
    have Q3 := Lib.hid q3
    clear q3 hk
    refine q2.mono ?_
    rintro e w2 ⟨a2, c2, rfl, _, _, r2, hb2⟩
    rw [hrl] at r2 ⊢
    have HB2 := Lib.hid (ext_trans HB1.out hb2)
    have R2 := Lib.hid r2
    have HRL := Lib.hid hrl
    clear q2 r2 hb2 HB1 hw hn hrl D0 DW DWE DT DTE
    go_wp2_with fail
    refine (Q3.out w2 HB2.out).mono ?_
    rintro e w3 ⟨a3, c3, rfl, _, _, r3, hb3⟩
    rw [HK.out] at r3 ⊢
    have HB3 := Lib.hid (ext_trans HB2.out hb3)
    have R3 := Lib.hid r3
    have R2' := Lib.hid (rd_ext R2.out hb3)
    clear r3 hb3 HB2 R2 Q3 TI
    obtain ⟨b2, o2, rfl, hb2', hc2⟩ := R2'.out.2 (by omega)
    have HC2 : Hid (∀ x, x < n → w3.cell? ⟨b2, o2 + x, none⟩ = some (.int .i64 (winTo M x n))) := fun x hx => by
      rw [hc2 x hx]
      unfold winsL
      rw [map_sides_getD n _ hx]
      simp
    clear hc2
    go_wp2_with fail
    go_loopw [7, 52] (fun s i wr => ∃ x : Nat, x ≤ n ∧ i = .int .i64 x ∧ s = .int .i64 (sumTo (fun x => winTo M x n) x) ∧ w3 = wr) (fun _ i _ => n - (intOf i).toNat)
    case atStart => exact ⟨0, Nat.zero_le _, rfl, rfl, rfl⟩
    case round =>
      obtain ⟨x, hx, rfl, rfl, rfl⟩ := hrel
      by_cases hxn : x < n
      · have cx := HC2.out x hxn
        have sb := sum_bd M n x h6
        have wb := winTo_bd M x n
        have HS : Hid (sumTo (fun x => winTo M x n) (x + 1) = sumTo (fun x => winTo M x n) x + winTo M x n) := rfl
        generalize winTo M x n = wx at cx wb HS
        generalize sumTo (fun x => winTo M x n) x = sx at *
        go_wp2
        go_roundw
        case rel => exact ⟨x + 1, by omega, by go_num, by rw [HS.out], by first | rfl | trivial⟩
        case measure => simp [intOf]; omega
      · obtain rfl : x = n := by omega
        rw [wins_sum]
        go_wp2_with fail
        refine (max_any (winsL x M) (some ⟨b2, o2, none⟩) x c2 w3 w3.heap.size (by omega) R2'.out (by omega)).mono ?_
        rintro e w' ⟨rfl, rfl⟩
        have HMX : Hid (∀ y, y < x → winTo M y x ≤ Lib.maxOf (winsL x M)) := fun y hy => by
          have h := maxOf_ge (p := winsL x M) (k := y) (by rw [HRL.out]; exact hy) x hy (by rw [HRL.out]; exact Nat.le_refl _)
          rw [List.take_of_length_le (by rw [HRL.out]; exact Nat.le_refl _)] at h
          have e : (winsL x M).getD y 0 = winTo M y x := by unfold winsL; rw [map_sides_getD x _ hy]; simp
          rw [e] at h
          exact h
        generalize Lib.maxOf (winsL x M) = most at *
        go_wp2_with fail
        go_loopw [64] (fun i wq => ∃ y : Nat, y ≤ x ∧ i = .int .i64 y ∧ w3 = wq) (fun i _ => x - (intOf i).toNat)
        case atStart => exact ⟨0, Nat.zero_le _, rfl, rfl⟩
        case round =>
          obtain ⟨y, hy, rfl, rfl⟩ := hrel
          by_cases hyx : y < x
          · have cy := HC2.out y hyx
            by_cases hm : winTo M y x = most
            · have hin : decide ((y : Int) ∈ topL x M) = true := by
                simp
                exact best_top hyx (fun z hz => by rw [hm]; exact HMX.out z hz)
              have hmb : (winTo M y x == most) = true := by simpa using hm
              have q := contains_any (topL x M) (y : Int) a3 k c3 w3 w3.heap.size R3.out (by omega)
              rw [hin] at q
              have Q := Lib.hid q
              clear hm hin q
              generalize winTo M y x = wy at *
              go_wp2_with fail
              refine Q.out.mono ?_
              rintro e w' ⟨rfl, rfl⟩
              clear Q
              go_wp2
              go_roundw
              case rel => exact ⟨y + 1, by omega, by go_num, by first | rfl | trivial⟩
              case measure => simp [intOf]; omega
            · have hmb : (winTo M y x == most) = false := by simpa using hm
              clear hm
              generalize winTo M y x = wy at *
              go_wp2
              go_roundw
              case rel => exact ⟨y + 1, by omega, by go_num, by first | rfl | trivial⟩
              case measure => simp [intOf]; omega
          · obtain rfl : y = x := by omega
            go_wp2
            go_ret
            exact ⟨rfl, HB3.out⟩
  · have hne : (tchk M != 0) = true := by simpa using hw
    refine (DWE.out a M.length c M w1 (TI.out.below HB1.out) hw).mono ?_
    rintro e w2 ⟨a2, c2, rfl, hb2⟩
    have HB2 := Lib.hid (ext_trans HB1.out hb2)
    clear hb2 HB1
    go_wp2_with fail
    refine (DTE.out a M.length c M w2 (TI.out.below HB2.out) hw).mono ?_
    rintro e w3 ⟨a3, c3, rfl, hb3⟩
    have HB3 := Lib.hid (ext_trans HB2.out hb3)
    clear hb3 HB2 hw D0 DW DWE DT DTE
    generalize tchk M = cc at *
    go_wp2
    go_ret
    exact ⟨rfl, HB3.out⟩
end Go.Proofs.Ytbmefccljbndeaa

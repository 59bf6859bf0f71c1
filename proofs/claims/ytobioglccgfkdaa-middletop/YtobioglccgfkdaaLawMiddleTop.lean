/-
  plumekeep.MiddleTop returns true, for every int and every slice of slices of ints, if packages middle and duel and tally.Duels keep their contracts; nothing that was there is written.
-/
import Derived.Test.YtobioglccgfkdaaCMiddles
import Derived.Test.YtobioglccgfkdaaCDuels0
import Derived.Test.YtobioglccgfkdaaCVotesOf
import Derived.Test.YtobioglccgfkdaaCWithin
import Derived.Test.YtobioglccgfkdaaCContains
import Derived.Test.YtobioglccgfkdaaCGood
namespace Go.Proofs.Ytobioglccgfkdaa
open Go.RowKit Fm
set_option linter.unusedVariables false

theorem perm_lenM {n : Nat} {V : List (List Int)} (hp : ∀ p ∈ V, p.Perm (sides n)) (h6 : n ≤ 6) : ∀ p ∈ V, p.length ≤ 1000 := fun p hpm => by
  have := (hp p hpm).length_eq
  rw [sides_len] at this
  omega
theorem topL_le (n : Nat) (M : List (List Int)) : (topL n M).length ≤ n := by
  unfold topL
  rw [List.length_map]
  exact Nat.le_trans (List.length_filter_le _ _) (by simp)

set_option maxHeartbeats 4000000 in
set_option maxRecDepth 100000 in
theorem middleTop_is (mB : MBest) (tD : TDuelsM) (dW : DWins) (dT : DTop) (n0 : Int) (hn0 : -9223372036854775808 ≤ n0) (hn1 : n0 ≤ 9223372036854775807) (v : Value) (L : List (List Int)) {w : World} (f : IsRows w v L) :
    Calls Try.prog 5 #[.int .i64 n0, v] w fun e w' => e = .returned (.bool true) ∧ Below w.heap.size w w' := by
  obtain ⟨a, c, rfl, hr, hall, hlc, _, hcm, h24⟩ := f
  have HR := Lib.hid hr
  have HO : Hid (∀ l ∈ L, ∀ x ∈ l, Ok64 x) := fun l hl => (hall l hl).1
  have W0 : Hid (∀ W, Calls Try.prog 14 #[] W fun e w' => e = .returned (.bool true) ∧ Below W.heap.size W w') := fun W => middles_any mB W
  have D0 : Hid (∀ W, Calls Try.prog 21 #[] W fun e w' => e = .returned (.bool true) ∧ Below W.heap.size W w') := fun W => duels0_any dW dT W
  have MB : Hid MBest := mB
  have TD : Hid TDuelsM := tD
  have DT : Hid DTop := dT
  clear hr hall mB tD dW dT h24
  go_enter Try.func5, Try.ntmps5
  go_wp2_with fail
  refine (W0.out w).mono ?_
  rintro e w0 ⟨rfl, hb0⟩
  go_wp2_with fail
  refine (D0.out w0).mono ?_
  rintro e w1 ⟨rfl, hb01⟩
  have hb1 := ext_trans hb0 hb01
  clear W0 D0 hb0 hb01
  go_wp2_with fail
  refine (within_any n0 6 w1 hn0 hn1 (by omega) (by omega)).mono ?_
  rintro e w1' ⟨rfl, rfl⟩
  obtain ⟨n, hn⟩ : ∃ n : Nat, 1 + n0 % 6 = n := ⟨(1 + n0 % 6).toNat, by omega⟩
  have h1 : 1 ≤ n := by omega
  have h6 : n ≤ 6 := by omega
  have e6 : n0 % 6 = (n : Int) - 1 := by omega
  rw [e6]
  have en : 1 + ((n : Int) - 1) = n := by omega
  clear hn e6 hn0 hn1
  go_wp2_with fail
  refine (votesOf_any n a L.length c L w1 (rdr_ext HR.out hb1) hlc hcm h1 h6 HO.out).mono ?_
  rintro e w2 h
  obtain ⟨va, vc, rfl, _, _, hrV, hb2⟩ := h.use
  clear h
  have hb02 := ext_trans hb1 hb2
  have HV30 := votesOf_len n L
  have HP := Lib.hid (fun p (hp : p ∈ votesOf n L) => votesOf_mem hp)
  have HOK := Lib.hid (votesOf_v0 h1 h6 L)
  have RV := Lib.hid hrV
  generalize votesOf n L = V at *
  have hV30 : V.length ≤ 30 := by omega
  clear HV30 hrV hb1 hb2 HR HO hlc hcm
  have QB := Lib.hid (MB.out n va V.length vc V w2 (tabIn_smallM RV.out (by omega) (perm_lenM HP.out h6)) HOK.out)
  have QD : Hid (∀ W, Below w2.heap.size w2 W → Calls Try.prog 18 #[.int .i64 n, .slice va V.length vc] W (MatOut (duelsM n V) W)) := fun W hW => TD.out n va V.length vc V W W.heap.size (Nat.le_refl _) (rdr_ext RV.out hW) (by omega) HOK.out
  have HTK := Lib.hid (tchk_duels h1 h6 hV30)
  have HML := Lib.hid (duelsM_len n V)
  have HMR : Hid (∀ l ∈ duelsM n V, l.length ≤ 1000) := fun l hl => by rw [duelsM_rows hl]; omega
  have QT : Hid (∀ W t d, RdR W W.heap.size t n (duelsM n V) → Calls Try.prog 22 #[.slice t n d] W (IntsOut (topL n (duelsM n V)) W)) := fun W t d hW => DT.out t n d (duelsM n V) W (tabIn_smallM hW (by omega) HMR.out) HTK.out
  obtain ⟨hbp, _, _⟩ := best_all h1 h6 V
  have hbl : (bestL n V).length = n := by have := hbp.length_eq; rwa [sides_len] at this
  have HBL := Lib.hid hbl
  have HAH : Hid (∀ i, i < n → ((bestL n V).getD i 0 ∈ topL n (duelsM n V) ↔ i < (topL n (duelsM n V)).length)) := fun i hi => best_ahead h1 h6 HP.out hi
  have htl := topL_le n (duelsM n V)
  clear MB TD DT HTK hbp hbl HMR RV HP HOK
  generalize topL n (duelsM n V) = T at *
  generalize duelsM n V = M at *
  generalize bestL n V = bl at *
  generalize leastN n V = ln at *
  go_wp2_with fail
  refine QB.out.mono ?_
  rintro e w3 ⟨a3, c3, rfl, _, _, r3, hb3⟩
  rw [HBL.out] at r3 ⊢
  clear QB
  go_wp2_with fail
  refine (QD.out w3 hb3).mono ?_
  rintro e w4 ⟨a4, c4, rfl, _, _, r4, hb4⟩
  rw [HML.out] at r4 ⊢
  have r34 := rd_ext r3 hb4
  have hb04 := ext_trans hb02 (ext_trans hb3 hb4)
  clear QD r3 hb3 hb4 hb02
  go_wp2_with fail
  refine (QT.out w4 a4 c4 r4).mono ?_
  rintro e w5 ⟨a5, c5, rfl, _, _, r5, hb5⟩
  have r35 := rd_ext r34 hb5
  have hb05 := ext_trans hb04 hb5
  clear QT r4 r34 hb5 hb04
  go_wp2_with fail
  refine (good_zero w5.heap.size 0 3 3 _ (by omega) (zeros_at w5 24 3 #[.int .i64 0, .int .i64 0, .int .i64 0] rfl)).mono ?_
  rintro e w' ⟨rfl, rfl⟩
  have b6 : Below w5.heap.size w5 (w5.alloc (.cells #[.int .i64 0, .int .i64 0, .int .i64 0] 24)) := (Below.refl _ _).alloc (by omega) _
  have hb06 := ext_trans hb05 b6
  have RP := Lib.hid (rd_ext r35 b6)
  have RT := Lib.hid (rd_ext r5 b6)
  clear r35 r5 b6 hb05
  generalize w5.alloc (.cells #[.int .i64 0, .int .i64 0, .int .i64 0] 24) = w6 at *
  obtain ⟨b3, o3, rfl, hbb3, hc3⟩ := RP.out.2 (by omega)
  have HC3 := Lib.hid hc3
  clear hc3
  go_wp2_with fail
  go_loopw [59] (fun iv wr => ∃ k : Nat, k ≤ n ∧ iv = .int .i64 k ∧ w6 = wr) (fun iv _ => n - (intOf iv).toNat)
  case atStart => exact ⟨0, Nat.zero_le _, rfl, rfl⟩
  case round =>
    obtain ⟨k, hk, rfl, rfl⟩ := hrel
    by_cases hkn : k < n
    · have ck := HC3.out k hkn
      have QC := Lib.hid (contains_q T (bl.getD k 0) a5 T.length c5 w6 w6.heap.size RT.out (by omega) (decide (bl.getD k 0 ∈ T)) rfl)
      have hah := HAH.out k hkn
      generalize bl.getD k 0 = x at *
      by_cases hlt : k < T.length
      · have hx : decide (x ∈ T) = true := decide_eq_true (hah.2 hlt)
        rw [hx] at QC
        have hlti : (k : Int) < (T.length : Int) := by omega
        clear hah hx
        go_wp2_with fail
        refine QC.out.mono ?_
        rintro e w7 ⟨rfl, rfl⟩
        clear QC
        go_wp2
        go_roundw
        case rel => exact ⟨k + 1, by omega, by go_num, trivial⟩
        case measure => simp [intOf]; omega
      · have hx : decide (x ∈ T) = false := decide_eq_false (fun h => hlt (hah.1 h))
        rw [hx] at QC
        have hlti : ¬ (k : Int) < (T.length : Int) := by omega
        clear hah hx
        go_wp2_with fail
        refine QC.out.mono ?_
        rintro e w7 ⟨rfl, rfl⟩
        clear QC
        go_wp2
        go_roundw
        case rel => exact ⟨k + 1, by omega, by go_num, trivial⟩
        case measure => simp [intOf]; omega
    · obtain rfl : k = n := by omega
      go_wp2
      go_ret
      exact ⟨rfl, hb06⟩
end Go.Proofs.Ytobioglccgfkdaa

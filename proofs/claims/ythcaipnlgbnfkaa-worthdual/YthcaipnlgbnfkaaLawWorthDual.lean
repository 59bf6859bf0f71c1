/-
  plumekeep.WorthDual returns true, for every int and slice of ints, if worth.Share keeps its contract; nothing that was there is written.
-/
import Derived.Test.YthcaipnlgbnfkaaCWorths
import Derived.BigRegion
import Derived.RegionTactic
namespace Go.Proofs.Ythcaipnlgbnfkaa
open Go.RowKit Fm
set_option linter.unusedVariables false

set_option maxHeartbeats 4000000 in
set_option maxRecDepth 100000 in
theorem worthDual_is (sS : WShare) (n0 : Int) (hn0 : -9223372036854775808 ≤ n0) (hn1 : n0 ≤ 9223372036854775807) (v1 : Value) (l : List Int) {w : World} (f1 : IsInts w v1 l) :
    Calls Try.prog 9 #[.int .i64 n0, v1] w fun e w' => e = .returned (.bool true) ∧ Below w.heap.size w w' := by
  obtain ⟨a, c, rfl, hr, hox, hlc, _, hcm, h8⟩ := f1
  have HR := Lib.hid hr
  have HO := Lib.hid hox
  have W0 := Lib.hid (worths_any sS w)
  have SS : Hid WShare := sS
  clear sS hr hox
  go_enter Try.func9, Try.ntmps9
  go_wp2_with fail
  refine W0.out.mono ?_
  rintro e w1 ⟨rfl, hb1⟩
  clear W0
  go_wp2_with fail
  refine (within_any n0 5 w1 hn0 hn1 (by omega) (by omega)).mono ?_
  rintro e w1' ⟨rfl, rfl⟩
  obtain ⟨d, hd⟩ : ∃ d : Nat, n0 % 5 = (d : Int) := ⟨(n0 % 5).toNat, by omega⟩
  rw [hd]
  obtain ⟨n, hn⟩ : ∃ n : Nat, d + 1 = n := ⟨_, rfl⟩
  have hnz : (1 : Int) + (d : Int) = (n : Int) := by omega
  have h1 : 1 ≤ n := by omega
  have h5 : n ≤ 5 := by omega
  clear hd hn0 hn1 hn
  go_wp2_with fail
  refine (gameOf_any h1 (by omega) a l.length c l w1 (rd_ext HR.out hb1) (by omega) HO.out).mono ?_
  rintro e w2 ⟨v2, rfl, o2, hb2⟩
  have hb02 := ext_trans hb1 hb2
  have HG := Lib.hid (gameL_gm h1 (show n ≤ 6 by omega) l)
  have HV : Hid (∀ S, -10 ≤ val (gameL n l) S ∧ val (gameL n l) S ≤ 30) := fun S => by
    by_cases q : S < 2 ^ n
    · rw [gameL_at l q]; exact gm_bd l S
    · unfold val
      rw [List.getD_eq_getElem?_getD, List.getElem?_eq_none (by rw [gameL_len]; omega)]
      decide
  have hgl := gameL_len n l
  generalize gameL n l = V at *
  have hp6 := pow6 (show n ≤ 6 by omega)
  have hp1 := pow1 n
  have HD : Hid (shL n V = shL n (funL (2 ^ n) (fun S => val V (2 ^ n - 1) - val V (2 ^ n - 1 - S)))) := shL_congr (fun i hi => by
    rw [← sh_dual hi]
    exact sh_congr (fun S hS => (funL_at (fun S => val V (2 ^ n - 1) - val V (2 ^ n - 1 - S)) hS).symm) hi)
  have HGD : Hid (Gm n (funL (2 ^ n) (fun S => val V (2 ^ n - 1) - val V (2 ^ n - 1 - S)))) := funL_gm h1 (by omega) (fun S _ => by
    have := HV.out (2 ^ n - 1)
    have := HV.out (2 ^ n - 1 - S)
    omega) (by simp)
  obtain ⟨N, hN⟩ : ∃ N, 2 ^ n = N := ⟨_, rfl⟩
  rw [hN] at hgl HD HGD hp6 hp1 o2
  have HGL := Lib.hid hgl
  obtain ⟨a2, c2, rfl, hc2, _⟩ := own_slice o2
  have R2 := Lib.hid (Rd.of_own o2)
  obtain ⟨b2', o2', e2', hb2l, hcell⟩ := (Rd.of_own o2).2 (by omega)
  subst e2'
  have HC : Hid (∀ j, j < N → w2.cell? ⟨b2', o2' + j, none⟩ = some (.int .i64 (val V j))) := hcell
  have hmk : ∀ W : World, (Instr.makeSlice 22 (.int .i64 N) (.int .i64 N)).run Try.prog W = .ok (.slice (some ⟨W.heap.size, 0, none⟩) N N) (W.alloc (.cells (zeros N) 3)) := make_ints N (by omega)
  have own0 := own_lit w2 3 (List.replicate N 0) (zeros N) rfl (by unfold maxLen; simp; omega)
  rw [List.length_replicate, filL_zero N (fun S => val V (N - 1) - val V (N - 1 - S))] at own0
  have hb0 : Below w2.heap.size w2 (w2.alloc (.cells (zeros N) 3)) := (Below.refl _ w2).alloc (Nat.le_refl _) _
  have HST : Hid (∀ k, k < N → (filL N (fun S => val V (N - 1) - val V (N - 1 - S)) k).set k (val V (N - 1) - val V (N - 1 - k)) = filL N (fun S => val V (N - 1) - val V (N - 1 - S)) (k + 1)) := fun k hk => filL_set (fun S => val V (N - 1) - val V (N - 1 - S)) hk
  have HEN := Lib.hid (filL_end N (fun S => val V (N - 1) - val V (N - 1 - S)))
  clear o2 hb1 hb2 hcell hgl hN
  generalize (fun S => val V (N - 1) - val V (N - 1 - S)) = F at *
  go_wp2_with fail
  clear hmk
  generalize w2.alloc (.cells (zeros N) 3) = w3 at *
  obtain ⟨g, hg⟩ : ∃ g, g = w2.heap.size := ⟨_, rfl⟩
  have hg1 : w2.heap.size ≤ g := by omega
  have own1 : w3.ownsRow w2.heap.size 3 1 (.slice (some ⟨g, 0, none⟩) N N) N (I (filL N F 0)) := by rw [hg]; exact own0
  rw [← hg]
  clear own0 hg
  go_loopw [25] (fun iv wr => ∃ k : Nat, k ≤ N ∧ iv = .int .i64 k ∧ wr.ownsRow w2.heap.size 3 1 (.slice (some ⟨g, 0, none⟩) N N) N (I (filL N F k)) ∧ Below w2.heap.size w2 wr) (fun iv _ => N - (intOf iv).toNat)
  case atStart => exact ⟨0, Nat.zero_le _, rfl, own1, hb0⟩
  case round =>
    obtain ⟨k, hk, rfl, own, hbel⟩ := hrel
    clear own1 hb0
    by_cases hkN : k < N
    · obtain ⟨j1, hj1⟩ : ∃ j1 : Nat, N - 1 = j1 := ⟨_, rfl⟩
      obtain ⟨j2, hj2⟩ : ∃ j2 : Nat, N - 1 - k = j2 := ⟨_, rfl⟩
      have r1 : wr.cell? ⟨b2', o2' + j1, none⟩ = some (.int .i64 (val V j1)) := (hbel.cell (by show b2' < _; omega)).trans (HC.out j1 (by omega))
      have r2 : wr.cell? ⟨b2', o2' + j2, none⟩ = some (.int .i64 (val V j2)) := (hbel.cell (by show b2' < _; omega)).trans (HC.out j2 (by omega))
      have hst := HST.out k hkN
      rw [hj2, hj1] at hst
      have v1 := HV.out j1
      have v2 := HV.out j2
      have z1 : (N : Int) - 1 = (j1 : Int) := by omega
      have z2 : (j1 : Int) - (k : Int) = (j2 : Int) := by omega
      clear hj1 hj2
      generalize val V j1 = x1 at *
      generalize val V j2 = x2 at *
      have ck := own_cell own k hkN
      have fk := own.frozenAt k
      obtain ⟨s1, g1⟩ := own.stored k (.int .i64 (x1 - x2))
      have es : (I (filL N F k)).set k (.int .i64 (x1 - x2)) = I (filL N F (k + 1)) := by
        rw [← hst]; unfold I; rw [List.map_set]
      rw [es] at s1
      have hb5 := hbel.grown g1 hbel.size (fun z hz2 => by injection hz2 with hz2; omega)
      have q1 : (j1 : Int) < (N : Int) := by omega
      have q2 : (j2 : Int) < (N : Int) := by omega
      clear es g1 hst own hbel
      go_wp2_with fail
      go_region
      all_goals
        go_wp2
        go_roundw
        case rel => exact ⟨k + 1, by omega, by go_num, own_drewN s1 _, below_drewN hb5 _⟩
        case measure => simp [intOf]; omega
    · obtain rfl : k = N := by omega
      rw [HEN.out] at own
      have RW := Lib.hid (Rd.of_own own)
      have HB := Lib.hid hbel
      have HB2 := Lib.hid hb02
      clear own hbel hb02 HST
      go_wp2_with fail
      refine (share_useW SS.out HG.out HGL.out _ c2 hc2 wr (rd_ext R2.out HB.out)).mono ?_
      rintro e w4 ⟨a4, c4, rfl, hc4, r4, hb4⟩
      go_wp2_with fail
      refine (share_useW SS.out HGD.out (funL_len k F) (some ⟨g, 0, none⟩) k (Nat.le_refl _) w4 (rd_ext RW.out hb4)).mono ?_
      rintro e w5 ⟨a5, c5, rfl, hc5, r5, hb5⟩
      rw [← HD.out] at r5
      have R4 := Lib.hid (rd_ext r4 hb5)
      have R5 := Lib.hid r5
      have hb05 := ext_trans (ext_trans (ext_trans HB2.out HB.out) hb4) hb5
      clear r4 r5 hb4 hb5 SS RW R2 HB HB2
      generalize shL n V = res at *
      go_wp2_with fail
      refine (good_zero w5.heap.size 0 2 2 _ (by omega) (zeros_at w5 23 2 #[.int .i64 0, .int .i64 0] rfl)).mono ?_
      rintro e w6 ⟨rfl, rfl⟩
      have b6 : Below w5.heap.size w5 (w5.alloc (.cells #[.int .i64 0, .int .i64 0] 23)) := (Below.refl _ _).alloc (Nat.le_refl _) _
      have R46 := Lib.hid (rd_ext R4.out b6)
      have R56 := Lib.hid (rd_ext R5.out b6)
      have hb06 := ext_trans hb05 b6
      clear b6 R4 R5 hb05
      generalize w5.alloc (.cells #[.int .i64 0, .int .i64 0] 23) = w6 at *
      go_wp2_with fail
      refine (equal_ext res res a4 a5 n c4 n c5 w6 R46.out R56.out (by omega) (by omega)).mono ?_
      rintro e w7 ⟨rfl, hb7⟩
      have hb07 := ext_trans hb06 hb7
      have hdt : decide (res = res) = true := decide_eq_true rfl
      rw [hdt]
      clear hb7 hb06
      go_wp2
      go_ret
      exact ⟨rfl, hb07⟩
end Go.Proofs.Ythcaipnlgbnfkaa

/-
  plumekeep.WorthAlike returns true, for all ints and two slices of ints, if worth.Share keeps its contract; nothing that was there is written.
-/
import Derived.Test.YthcaipnlgbnfkaaCWorths
import Derived.Test.YthcaipnlgbnfkaaAlikeMath
import Derived.Test.YthcaipnlgbnfkaaCOrderOf
import Derived.Test.YthcaipnlgbnfkaaTwoMade
import Derived.Deep.DeepCutAuto
import Derived.BigRegion
import Derived.RegionTactic
import Derived.BigQuiet
import Derived.Deep.QuietTactic
namespace Go.Proofs.Ythcaipnlgbnfkaa
open Go.RowKit Fm
set_option linter.unusedVariables false

set_option maxHeartbeats 4000000 in
set_option maxRecDepth 100000 in
theorem worthAlike_is (sS : WShare) (n0 : Int) (hn0 : -9223372036854775808 ≤ n0) (hn1 : n0 ≤ 9223372036854775807) (v1 : Value) (l : List Int) {w : World} (f1 : IsInts w v1 l) (vy : Value) (ly : List Int) (f2 : IsInts w vy ly) (k0 : Int) (hk0 : -9223372036854775808 ≤ k0) (hk1 : k0 ≤ 9223372036854775807) (z0 : Int) (hz0 : -9223372036854775808 ≤ z0) (hz1 : z0 ≤ 9223372036854775807) :
    Calls Try.prog 5 #[.int .i64 n0, v1, vy, .int .i64 k0, .int .i64 z0] w fun e w' => e = .returned (.bool true) ∧ Below w.heap.size w w' := by
  obtain ⟨a, c, rfl, hr, hox, hlc, _, hcm, h8⟩ := f1
  obtain ⟨ay, cy, rfl, hry, hoy, hly, _, hcy, hy8⟩ := f2
  have HR := Lib.hid hr
  have HO := Lib.hid hox
  have HRY := Lib.hid hry
  have HOY := Lib.hid hoy
  have W0 := Lib.hid (worths_any sS w)
  have SS : Hid WShare := sS
  clear sS hr hox hry hoy
  go_enter Try.func5, Try.ntmps5
  go_wp2_with fail
  refine W0.out.mono ?_
  rintro e w1 ⟨rfl, hb1⟩
  clear W0
  go_wp2_with fail
  refine (within_any n0 5 w1 hn0 hn1 (by omega) (by omega)).mono ?_
  rintro e w1' ⟨rfl, rfl⟩
  obtain ⟨d, hd⟩ : ∃ d : Nat, n0 % 5 = (d : Int) := ⟨(n0 % 5).toNat, by omega⟩
  rw [hd]
  obtain ⟨n, hn⟩ : ∃ n : Nat, d + 1 = n := ⟨_, rfl⟩
  have hnz : (1 : Int) + (d : Int) = (n : Int) := by omega
  have h1 : 1 ≤ n := by omega
  have h5 : n ≤ 5 := by omega
  clear hd hn0 hn1 hn
  go_wp2_with fail
  refine (gameOf_any h1 (by omega) a l.length c l w1 (rd_ext HR.out hb1) (by omega) HO.out).mono ?_
  rintro e w2 ⟨v2, rfl, o2, hb2⟩
  have hb02 := ext_trans hb1 hb2
  clear hb1 hb2
  go_wp2_with fail
  refine (orderOf_any n ay ly.length cy ly w2 w2.heap.size (Nat.le_refl _) (rd_ext HRY.out hb02) h1 (by omega) HOY.out).mono ?_
  rintro e w3 ⟨v3, rfl, o3, hb3⟩
  have hb03 := ext_trans hb02 hb3
  have HG := Lib.hid (gameL_gm h1 (show n ≤ 6 by omega) l)
  have HV : Hid (∀ S, S < 2 ^ n → -10 ≤ val (gameL n l) S ∧ val (gameL n l) S ≤ 30) := fun S q => by rw [gameL_at l q]; exact gm_bd l S
  have HGL := Lib.hid (gameL_len n l)
  have HP := Lib.hid (ordOf_perm n ly)
  generalize gameL n l = V at *
  generalize ordOf n ly = P at *
  obtain ⟨N, hN⟩ : ∃ N, 2 ^ n = N := ⟨_, rfl⟩
  have hN32 : N ≤ 32 := by rw [← hN]; exact Nat.pow_le_pow_right (by omega) h5
  have hN1 : 1 ≤ N := by rw [← hN]; exact pow1 n
  have HN := Lib.hid hN
  rw [hN] at o2 HV HGL
  obtain ⟨a2, c2, rfl, hc2, _⟩ := own_slice o2
  obtain ⟨a3, c3, rfl, hc3, _⟩ := own_slice o3
  have r2 := rd_ext (Rd.of_own o2) hb3
  have r3 := Rd.of_own o3
  obtain ⟨bv, ov, e2', hbv, hcv⟩ := r2.2 (by omega)
  obtain ⟨bp, op, e3', hbp, hcp⟩ := r3.2 (by omega)
  subst e2'
  subst e3'
  have HCV : Hid (∀ j, j < N → w3.cell? ⟨bv, ov + j, none⟩ = some (.int .i64 (val V j))) := hcv
  have HCP : Hid (∀ j, j < n → w3.cell? ⟨bp, op + j, none⟩ = some (.int .i64 (P.getD j 0))) := hcp
  have R2 := Lib.hid r2
  clear o2 o3 hb3 hb02 hcv hcp hN r2 r3
  go_wp2_with fail
  refine (within_any k0 n w3 hk0 hk1 (by omega) (by omega)).mono ?_
  rintro e w3' ⟨rfl, rfl⟩
  obtain ⟨k, hk⟩ : ∃ k : Nat, k0 % (n : Int) = (k : Int) := ⟨(k0 % (n : Int)).toNat, by have := Int.emod_nonneg k0 (show (n : Int) ≠ 0 by omega); omega⟩
  have hkn : k < n := by have := Int.emod_lt_of_pos k0 (show (0 : Int) < n by omega); omega
  rw [hk]
  clear hk hk0 hk1
  go_wp2_with fail
  refine (within_any z0 41 w3 hz0 hz1 (by omega) (by omega)).mono ?_
  rintro e w3' ⟨rfl, rfl⟩
  obtain ⟨z, hz⟩ : ∃ z : Int, z0 % 41 - 20 = z := ⟨_, rfl⟩
  obtain ⟨y, hy⟩ : ∃ y : Int, z0 % 41 = y := ⟨_, rfl⟩
  have hyz : y - 20 = z := by omega
  have hz20 : -20 ≤ z ∧ z ≤ 20 := by omega
  have hy40 : 0 ≤ y ∧ y ≤ 40 := by omega
  rw [hy]
  clear hz hy hz0 hz1
  have TW := Lib.hid (rows_made w3 N (by omega))
  have hmk : ∀ W : World, (Instr.makeSlice 22 (.int .i64 N) (.int .i64 N)).run Try.prog W = .ok (.slice (some ⟨W.heap.size, 0, none⟩) N N) (W.alloc (.cells (zeros N) 3)) := make_ints N (by omega)
  -- what the two games are
  have HGW : Hid (Gm n (wrL N (fun S => toN P S n) (val V) N)) := by
    have := wrL_gm h1 h5 HP.out (v := val V) (fun S hS => by rw [HN.out] at hS; have := HV.out S hS; omega) (by have := HG.out.zero; exact this)
    rw [HN.out] at this
    exact this
  have HGI : Hid (Gm n (funL N (idF (val V) z k))) := by
    have := funL_gm (n := n) h1 (by omega) (f := idF (val V) z k) (fun S hS => by
      rw [HN.out] at hS
      have h1 := HV.out (clr S k) (Nat.lt_of_le_of_lt (clr_le S k) hS)
      unfold idF
      split <;> omega) (by rw [idF_zero]; exact HG.out.zero)
    rw [HN.out] at this
    exact this
  have HSW : Hid (∀ i, i < n → shG (val (wrL N (fun S => toN P S n) (val V) N)) n (P.getD i 0) = shG (val V) n i) := fun i hi => by
    have := wrL_share h1 h5 HP.out (v := val V) hi
    rw [HN.out] at this
    exact this
  have HSI : Hid (shG (val (funL N (idF (val V) z k))) n k = ((fact n : Nat) : Int) * z) := by
    show _ = _
    rw [← idF_share h1 (by omega) hkn (v := val V)]
    exact sh_congr (fun S hS => funL_at _ (by rw [HN.out] at hS; exact hS)) hkn
  have HTO : Hid (∀ s i, toN P s (i + 1) = if s.testBit i = true then toN P s i ||| 2 ^ (P.getD i 0).toNat else toN P s i) := fun s i => rfl
  have HTL : Hid (∀ s i, i ≤ n → toN P s i < N) := fun s i hi => by have := toN_lt HP.out s i hi; rw [HN.out] at this; exact this
  have HPX : Hid (∀ i, i < n → ∃ x : Nat, P.getD i 0 = x ∧ x < n) := fun i hi => at_nat HP.out hi
  have HT0 : Hid (∀ s, toN P s 0 = 0) := fun _ => rfl
  have HWS : Hid (∀ s, wrL N (fun S => toN P S n) (val V) (s + 1) = (wrL N (fun S => toN P S n) (val V) s).set (toN P s n) (val V s)) := fun s => rfl
  have HW0 : Hid (List.replicate N 0 = wrL N (fun S => toN P S n) (val V) 0) := rfl
  have HIS : Hid (∀ s, s < N → (filL N (idF (val V) z k) s).set s (idF (val V) z k s) = filL N (idF (val V) z k) (s + 1)) := fun s hs => filL_set _ hs
  have HI0 := Lib.hid (filL_zero N (idF (val V) z k))
  have HIE := Lib.hid (filL_end N (idF (val V) z k))
  have HIF : Hid (∀ s, idF (val V) z k s = val V (clr s k) + z * (if s.testBit k = true then 1 else 0)) := fun _ => rfl
  have HWL : Hid (∀ s, (wrL N (fun S => toN P S n) (val V) s).length = N) := fun s => wrL_len _ _ _ s
  generalize wrL N (fun S => toN P S n) (val V) = WL at *
  generalize idF (val V) z k = F at *
  go_upto_region 6 with fail
  go_cut [13, 14] (fun s6 s7 wx => TwoRows w3 N (List.replicate N 0) (List.replicate N 0) s6 s7 wx)
  case first =>
    go_region
    all_goals
      go_wp2_with fail
      go_meet
      first
        | exact ⟨w3.heap.size, w3.heap.size + 1, rfl, rfl, by omega, TW.out.1, TW.out.2.1, ⟨TW.out.2.2.os, TW.out.2.2.tape, TW.out.2.2.output, TW.out.2.2.size, TW.out.2.2.block⟩⟩
        | exact ⟨w3.heap.size + 1, w3.heap.size, rfl, rfl, by omega, TW.out.2.1, TW.out.1, ⟨TW.out.2.2.os, TW.out.2.2.tape, TW.out.2.2.output, TW.out.2.2.size, TW.out.2.2.block⟩⟩
  case rest =>
    obtain ⟨ga, gb, rfl, rfl, hne, oa, ob, hb⟩ := hcut
    clear hmk TW
    rw [HW0.out] at oa
    rw [HI0.out] at ob
    go_wp2_with fail
    go_loopw [51] (fun tv wr => ∃ s : Nat, s ≤ N ∧ tv = .int .i64 s ∧ wr.ownsRow w3.heap.size 3 1 (.slice (some ⟨ga, 0, none⟩) N N) N (I (WL s)) ∧ wr.ownsRow w3.heap.size 3 1 (.slice (some ⟨gb, 0, none⟩) N N) N (I (filL N F s)) ∧ Below w3.heap.size w3 wr) (fun tv _ => N - (intOf tv).toNat)
    case atStart => exact ⟨0, Nat.zero_le _, rfl, oa, ob, hb⟩
    case round =>
      obtain ⟨s, hs, rfl, oa1, ob1, hb1⟩ := hrel
      clear oa ob hb
      by_cases hsN : s < N
      · go_wp2_with fail
        have HTO1 := Lib.hid (HTO.out s)
        have HTL1 := Lib.hid (HTL.out s)
        have HT01 := HT0.out s
        have HWS1 := Lib.hid (HWS.out s)
        generalize toN P s = TT at *
        go_loop [16, 55] (fun tv iv => ∃ i T : Nat, i ≤ n ∧ iv = .int .i64 i ∧ tv = .int .i64 T ∧ TT i = T) (fun _ iv => n - (intOf iv).toNat)
        case atStart => exact ⟨0, 0, Nat.zero_le _, rfl, rfl, HT01⟩
        case round =>
          obtain ⟨i, T, hi, rfl, rfl, hT⟩ := hrel
          have hTN := HTL1.out i hi
          rw [hT] at hTN
          have HT := Lib.hid hT
          clear hT
          by_cases hin : i < n
          · obtain ⟨x, hx, hxn⟩ := HPX.out i hin
            have rp : wr.cell? ⟨bp, op + i, none⟩ = some (.int .i64 x) := by rw [hb1.cell (by exact hbp), HCP.out i hin, hx]
            have hbit := bitE_at s (by omega) i (by omega)
            have HX := Lib.hid (HTO1.out i)
            rw [hx, Int.toNat_natCast, HT.out] at HX
            clear hx
            cases hbi : s.testBit i with
            | true =>
              rw [hbi] at hbit HX
              have HX2 : Hid (TT (i + 1) = T ||| 2 ^ x) := HX.out
              have hor := orW_at T (by omega) x (by omega)
              clear hbi HX
              go_wp2
              go_round
              case rel => exact ⟨i + 1, T ||| 2 ^ x, by omega, by go_num, by first | rfl | (rw [hor]), HX2.out⟩
              case measure => simp [intOf]; omega
            | false =>
              rw [hbi] at hbit HX
              have HX2 : Hid (TT (i + 1) = T) := HX.out
              clear hbi HX
              go_wp2
              go_round
              case rel => exact ⟨i + 1, T, by omega, by go_num, rfl, HX2.out⟩
              case measure => simp [intOf]; omega
          · obtain rfl : i = n := by omega
            have hws := HWS1.out
            rw [HT.out] at hws
            have hwl := HWL.out s
            have hvs := HV.out s hsN
            have hcl := Nat.lt_of_le_of_lt (clr_le s k) hsN
            have hvc := HV.out (clr s k) hcl
            have rv : wr.cell? ⟨bv, ov + s, none⟩ = some (.int .i64 (val V s)) := by rw [hb1.cell (by exact hbv)]; exact HCV.out s hsN
            have ck := own_cell oa1 T (by omega)
            have fk := oa1.frozenAt T
            obtain ⟨s1, g1⟩ := oa1.stored T (.int .i64 (val V s))
            have es : (I (WL s)).set T (.int .i64 (val V s)) = I (WL (s + 1)) := by
              rw [hws]; unfold I; rw [List.map_set]
            rw [es] at s1
            have o2' := ob1.kept g1 (.inr (by intro h; injection h with h; exact hne h.symm))
            have hb2 := hb1.grown g1 hb1.size (fun y hy => by injection hy with hy; have := (oa1.lt ga rfl).1; omega)
            have rc : (wr.setCell ⟨ga, T, none⟩ (.int .i64 (val V s))).cell? ⟨bv, ov + clr s k, none⟩ = some (.int .i64 (val V (clr s k))) := by rw [hb2.cell (by exact hbv)]; exact HCV.out _ hcl
            have HFS := Lib.hid (HIF.out s)
            have HIS1 := Lib.hid (HIS.out s hsN)
            have e1 := andNotW_at s (by omega) k (by omega)
            have e2 := andOne_at s (by omega) k (by omega)
            clear es g1 oa1 ob1 hb1 hws hwl HTO1 HTL1 HWS1 HT01 HT
            generalize val V s = xs at *
            generalize val V (clr s k) = xc at *
            generalize clr s k = cl at *
            generalize F s = fs at *
            go_wp2_with fail
            generalize wr.setCell ⟨ga, T, none⟩ (.int .i64 xs) = W at *
            have ck2 := own_cell o2' s hsN
            have fk2 := o2'.frozenAt s
            obtain ⟨s2, g2⟩ := o2'.stored s (.int .i64 fs)
            have es : (I (filL N F s)).set s (.int .i64 fs) = I (filL N F (s + 1)) := by
              rw [← HIS1.out]; unfold I; rw [List.map_set]
            rw [es] at s2
            have s1' := s1.kept g2 (.inr (by intro h; injection h with h; exact hne h))
            have hb3 := hb2.grown g2 hb2.size (fun y hy => by injection hy with hy; have := (o2'.lt gb rfl).1; omega)
            clear es g2 s1 o2' hb2 HIS1
            cases hbk : s.testBit k with
            | true =>
              rw [hbk] at HFS e2
              have hfs : fs = xc + z := by have := HFS.out; simp at this; exact this
              subst hfs
              have e2' : bits BinOp.and IntKind.i64 ((s : Int) / 2 ^ k) 1 = 1 := e2
              clear e2 HFS hbk
              go_region
              all_goals
                go_wp2
                go_roundw
                case rel => exact ⟨s + 1, by omega, by go_num, own_drewN s1' _, own_drewN s2 _, below_drewN hb3 _⟩
                case measure => simp [intOf]; omega
            | false =>
              rw [hbk] at HFS e2
              have hfs : fs = xc := by have := HFS.out; simp at this; exact this
              subst hfs
              have e2' : bits BinOp.and IntKind.i64 ((s : Int) / 2 ^ k) 1 = 0 := e2
              clear e2 HFS hbk
              go_region
              all_goals
                go_wp2
                go_roundw
                case rel => exact ⟨s + 1, by omega, by go_num, own_drewN s1' _, own_drewN s2 _, below_drewN hb3 _⟩
                case measure => simp [intOf]; omega
      · obtain rfl : s = N := by omega
        rw [HIE.out] at ob1
        have RA := Lib.hid (Rd.of_own oa1)
        have RB := Lib.hid (Rd.of_own ob1)
        have rp : ∀ j, j < n → wr.cell? ⟨bp, op + j, none⟩ = some (.int .i64 (P.getD j 0)) := fun j hj => by rw [hb1.cell (by exact hbp)]; exact HCP.out j hj
        have hbpw : bp < wr.heap.size := Nat.lt_of_lt_of_le hbp hb1.size
        have R2' := Lib.hid (rd_ext R2.out hb1)
        have hb0 := ext_trans hb03 hb1
        have HRP := Lib.hid rp
        have HLW := HWL.out s
        have HLF := funL_len s F
        clear oa1 ob1 hb1 hb03 HTO HTL HT0 HWS HW0 HIS HI0 HIE HIF HWL HCV HCP R2 rp
        go_wp2_with fail
        refine (share_useW SS.out HG.out HGL.out _ c2 hc2 wr R2'.out).mono ?_
        rintro e w4 ⟨a4, c4, rfl, hc4, r4, hb4⟩
        go_wp2_with fail
        refine (share_useW SS.out HGW.out HLW (some ⟨ga, 0, none⟩) s (Nat.le_refl _) w4 (rd_ext RA.out hb4)).mono ?_
        rintro e w5 ⟨a5, c5, rfl, hc5, r5, hb5⟩
        go_wp2_with fail
        refine (share_useW SS.out HGI.out HLF (some ⟨gb, 0, none⟩) s (Nat.le_refl _) w5 (rd_ext (rd_ext RB.out hb4) hb5)).mono ?_
        rintro e w6 ⟨a6, c6, rfl, hc6, r6, hb6⟩
        have b46 := ext_trans (ext_trans hb4 hb5) hb6
        have r46 := rd_ext (rd_ext r4 hb5) hb6
        have r56 := rd_ext r5 hb6
        have HRP6 : Hid (∀ j, j < n → w6.cell? ⟨bp, op + j, none⟩ = some (.int .i64 (P.getD j 0))) := fun j hj => (b46.cell (p := ⟨bp, op + j, none⟩) hbpw).trans (HRP.out j hj)
        have hb06 := ext_trans hb0 b46
        have hbw6 := Nat.lt_of_lt_of_le hbpw b46.size
        clear r4 r5 hb4 hb5 hb6 SS RA RB R2' b46 HRP hbpw hb0
        go_wp2_with fail
        refine (good_zero w6.heap.size 0 3 3 _ (by omega) (zeros_at w6 23 3 #[.int .i64 0, .int .i64 0, .int .i64 0] rfl)).mono ?_
        rintro e w7 ⟨rfl, rfl⟩
        have b7 : Below w6.heap.size w6 (w6.alloc (.cells #[.int .i64 0, .int .i64 0, .int .i64 0] 23)) := (Below.refl _ _).alloc (Nat.le_refl _) _
        have hb07 := ext_trans hb06 b7
        have c46 := (rd_ext r46 b7).2 (by omega)
        have c56 := (rd_ext r56 b7).2 (by omega)
        have c66 := (rd_ext r6 b7).2 (by omega)
        obtain ⟨b4, o4, rfl, _, q4⟩ := c46
        obtain ⟨b5, o5, rfl, _, q5⟩ := c56
        obtain ⟨b6, o6, rfl, _, q6⟩ := c66
        have Q4 : Hid (∀ i, i < n → (w6.alloc (.cells #[.int .i64 0, .int .i64 0, .int .i64 0] 23)).cell? ⟨b4, o4 + i, none⟩ = some (.int .i64 (shG (val V) n i))) := fun i hi => by rw [q4 i hi, shL_at V hi]
        have Q5 : Hid (∀ i x : Nat, i < n → x < n → P.getD i 0 = x → (w6.alloc (.cells #[.int .i64 0, .int .i64 0, .int .i64 0] 23)).cell? ⟨b5, o5 + x, none⟩ = some (.int .i64 (shG (val V) n i))) := fun i x hi hx he => by rw [q5 x hx, shL_at _ hx, ← HSW.out i hi, he]
        have Q6 : (w6.alloc (.cells #[.int .i64 0, .int .i64 0, .int .i64 0] 23)).cell? ⟨b6, o6 + k, none⟩ = some (.int .i64 (((fact n : Nat) : Int) * z)) := by rw [q6 k hkn, shL_at _ hkn, HSI.out]
        have QP : Hid (∀ i, i < n → (w6.alloc (.cells #[.int .i64 0, .int .i64 0, .int .i64 0] 23)).cell? ⟨bp, op + i, none⟩ = some (.int .i64 (P.getD i 0))) := fun i hi => (b7.cell (p := ⟨bp, op + i, none⟩) hbw6).trans (HRP6.out i hi)
        have HBV : Hid (∀ i : Int, -1440000000 ≤ shG (val V) n i ∧ shG (val V) n i ≤ 1440000000) := fun i => sh_bd HG.out i
        have HFB : Hid (∀ t, t ≤ 6 → fact t ≤ 720) := fun t ht => fact_le ht
        have HFS : Hid (∀ t, fact (t + 1) = fact t * (t + 1)) := fun _ => rfl
        clear r46 r56 r6 b7 hb06 q4 q5 q6 hbw6 HRP6 HSW HSI HGW HGI HG HV HLW HLF
        generalize w6.alloc (.cells #[.int .i64 0, .int .i64 0, .int .i64 0] 23) = w7 at *
        go_wp2_with fail
        go_loopw [24, 139] (fun mv iv wr => ∃ (i d f : Nat), i ≤ n ∧ iv = .int .i64 i ∧ mv = .int .i64 f ∧ fact i = f ∧ Hid (wr = w7.drewN d)) (fun _ iv _ => n - (intOf iv).toNat)
        case atStart => exact ⟨0, 0, 1, Nat.zero_le _, rfl, rfl, rfl, (show Hid _ from by show _ = _; rfl)⟩
        case round =>
          obtain ⟨i, d, f, hi, rfl, rfl, hf, HWR⟩ := hrel
          have HF := Lib.hid hf
          have hfb := HFB.out i (by omega)
          rw [hf] at hfb
          clear hf
          by_cases hin : i < n
          · obtain ⟨x, hx, hxn⟩ := HPX.out i hin
            have r1 : wr.cell? ⟨bp, op + i, none⟩ = some (.int .i64 x) := by rw [HWR.out]; exact (QP.out i hin).trans (by rw [hx])
            have r2 : wr.cell? ⟨b4, o4 + i, none⟩ = some (.int .i64 (shG (val V) n i)) := by rw [HWR.out]; exact Q4.out i hin
            have r3 : wr.cell? ⟨b5, o5 + x, none⟩ = some (.int .i64 (shG (val V) n i)) := by rw [HWR.out]; exact Q5.out i x hin hxn hx
            have y1 := HBV.out i
            obtain ⟨G, hG⟩ : ∃ G : Nat, f * (i + 1) = G := ⟨_, rfl⟩
            have m1 : (f : Int) * ((i : Int) + 1) = (G : Int) := by rw [← hG, Int.natCast_mul]; rfl
            have hGb : G ≤ 720 := by have := HFB.out (i + 1) (by omega); rw [HFS.out, HF.out, hG] at this; exact this
            have HX : Hid (fact (i + 1) = G) := by show _ = _; rw [HFS.out, HF.out, hG]
            clear hx hG
            generalize shG (val V) n i = s1 at *
            go_wp2_with fail
            go_quiet (fail)
            go_wp2
            go_roundw
            case rel => exact ⟨i + 1, d + nq, G, by omega, by go_num, rfl, HX.out, (show Hid _ from by show _ = _; rw [HWR.out, World.drewN_drewN])⟩
            case measure => simp [intOf]; omega
          · obtain rfl : i = n := by omega
            rw [HF.out] at Q6
            have rl : wr.cell? ⟨b6, o6 + k, none⟩ = some (.int .i64 ((f : Int) * z)) := by rw [HWR.out]; exact Q6
            have hbe : Below w.heap.size w wr := by rw [HWR.out]; exact below_drewN hb07 d
            have hprod : -100000 ≤ (f : Int) * z ∧ (f : Int) * z ≤ 100000 := by
              have f1 : (0 : Int) ≤ (f : Int) := by omega
              have p1 := Int.mul_le_mul_of_nonneg_left hz20.1 f1
              have p2 := Int.mul_le_mul_of_nonneg_left hz20.2 f1
              omega
            obtain ⟨pr, hpr⟩ : ∃ pr, (f : Int) * z = pr := ⟨_, rfl⟩
            rw [hpr] at hprod rl
            clear Q4 Q5 Q6 QP HWR
            go_wp2
            go_ret
            exact ⟨by first | rfl | (congr 1; simp), hbe⟩
end Go.Proofs.Ythcaipnlgbnfkaa

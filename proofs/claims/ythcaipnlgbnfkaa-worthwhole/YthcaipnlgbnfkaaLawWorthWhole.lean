/-
  plumekeep.WorthWhole returns true, for every int and two slices of ints, if worth.Share keeps its contract; nothing that was there is written.
-/
import Derived.Test.YthcaipnlgbnfkaaCWorths
import Derived.Test.YthcaipnlgbnfkaaCSumK
import Derived.BigRegion
import Derived.RegionTactic
import Derived.BigQuiet
import Derived.Deep.QuietTactic
namespace Go.Proofs.Ythcaipnlgbnfkaa
open Go.RowKit Fm
set_option linter.unusedVariables false

theorem fact_le6 (n : Nat) (h : n ≤ 6) : fact n ≤ 720 := fact_le h
theorem sumS_use {n : Nat} {V : List Int} (g : Gm n V) (a : Option Addr) (c : Nat) (W : World) (hr : Rd W W.heap.size a n (shL n V)) :
    Calls Try.prog 32 #[.slice a n c] W fun e w' => e = .returned (.int .i64 ((fact n : Int) * val V (2 ^ n - 1))) ∧ W = w' := by
  have h6 := g.le
  have q := sumK_any a n c (shL n V) W W.heap.size hr (by omega) (fun x hx => by have := shL_bd g x hx; omega)
  have e : (shL n V).sum = (fact n : Int) * val V (2 ^ n - 1) := by
    rw [shL_sum, sh_sum, allO_len g.pos g.le]
    have := g.zero
    unfold val
    rw [this, Int.sub_zero]
  rw [e] at q
  exact q

set_option maxHeartbeats 4000000 in
set_option maxRecDepth 100000 in
theorem worthWhole_is (sS : WShare) (n0 : Int) (hn0 : -9223372036854775808 ≤ n0) (hn1 : n0 ≤ 9223372036854775807) (v1 : Value) (l : List Int) {w : World} (f1 : IsInts w v1 l) (vy : Value) (ly : List Int) (f2 : IsInts w vy ly) :
    Calls Try.prog 4 #[.int .i64 n0, v1, vy] w fun e w' => e = .returned (.bool true) ∧ Below w.heap.size w w' := by
  obtain ⟨a, c, rfl, hr, hox, hlc, _, hcm, h8⟩ := f1
  obtain ⟨ay, cy, rfl, hry, hoy, hly, _, hcy, hy8⟩ := f2
  have HR := Lib.hid hr
  have HO := Lib.hid hox
  have HRY := Lib.hid hry
  have HOY := Lib.hid hoy
  have W0 := Lib.hid (worths_any sS w)
  have SS : Hid WShare := sS
  clear sS hr hox hry hoy
  go_enter Try.func4, Try.ntmps4
  go_wp2_with fail
  refine W0.out.mono ?_
  rintro e w1 ⟨rfl, hb1⟩
  clear W0
  go_wp2_with fail
  refine (within_any n0 5 w1 hn0 hn1 (by omega) (by omega)).mono ?_
  rintro e w1' ⟨rfl, rfl⟩
  obtain ⟨d, hd⟩ : ∃ d : Nat, n0 % 5 = (d : Int) := ⟨(n0 % 5).toNat, by omega⟩
  rw [hd]
  obtain ⟨n, hn⟩ : ∃ n : Nat, d + 1 = n := ⟨_, rfl⟩
  have hnz : (1 : Int) + (d : Int) = (n : Int) := by omega
  have h1 : 1 ≤ n := by omega
  have h5 : n ≤ 5 := by omega
  clear hd hn0 hn1 hn
  go_wp2_with fail
  refine (gameOf_any h1 (by omega) a l.length c l w1 (rd_ext HR.out hb1) (by omega) HO.out).mono ?_
  rintro e w2 ⟨v2, rfl, o2, hb2⟩
  have hb02 := ext_trans hb1 hb2
  clear hb1 hb2
  go_wp2_with fail
  refine (gameOf_any h1 (by omega) ay ly.length cy ly w2 (rd_ext HRY.out hb02) (by omega) HOY.out).mono ?_
  rintro e w3 ⟨v3, rfl, o3, hb3⟩
  have hb03 := ext_trans hb02 hb3
  have HV : Hid (∀ S, S < 2 ^ n → -10 ≤ val (gameL n l) S ∧ val (gameL n l) S ≤ 30) := fun S q => by rw [gameL_at l q]; exact gm_bd l S
  have HW : Hid (∀ S, S < 2 ^ n → -10 ≤ val (gameL n ly) S ∧ val (gameL n ly) S ≤ 30) := fun S q => by rw [gameL_at ly q]; exact gm_bd ly S
  have HG := Lib.hid (gameL_gm h1 (show n ≤ 6 by omega) l)
  have HGY := Lib.hid (gameL_gm h1 (show n ≤ 6 by omega) ly)
  have HGL := Lib.hid (gameL_len n l)
  have HGLY := Lib.hid (gameL_len n ly)
  obtain ⟨a2, c2, rfl, hc2, _⟩ := own_slice o2
  obtain ⟨a3, c3, rfl, hc3, _⟩ := own_slice o3
  have r2 := rd_ext (Rd.of_own o2) hb3
  have r3 := Rd.of_own o3
  generalize gameL n l = V at *
  generalize gameL n ly = Y at *
  have hp6 := pow6 (show n ≤ 6 by omega)
  have hp1 := pow1 n
  have HGB : Hid (Gm n (funL (2 ^ n) (fun S => val V S + val Y S))) := funL_gm h1 (by omega) (fun S hS => by
    have := HV.out S hS
    have := HW.out S hS
    omega) (by
    have e1 := HG.out.zero
    have e2 := HGY.out.zero
    unfold val
    omega)
  have HSUM : Hid (∀ i, i < n → shG (val (funL (2 ^ n) (fun S => val V S + val Y S))) n i = shG (val V) n i + shG (val Y) n i) := fun i hi => by
    rw [← sh_add]
    exact sh_congr (fun S hS => funL_at (fun S => val V S + val Y S) hS) hi
  obtain ⟨N, hN⟩ : ∃ N, 2 ^ n = N := ⟨_, rfl⟩
  rw [hN] at HGL HGLY HGB HSUM HV HW hp6 hp1 r2 r3 hc2 hc3 ⊢
  have HN := Lib.hid hN
  obtain ⟨bv, ov, e2', hbv, hcv⟩ := r2.2 (by omega)
  obtain ⟨by', oy, e3', hby, hcy'⟩ := r3.2 (by omega)
  subst e2'
  subst e3'
  have HCV : Hid (∀ j, j < N → w3.cell? ⟨bv, ov + j, none⟩ = some (.int .i64 (val V j))) := hcv
  have HCY : Hid (∀ j, j < N → w3.cell? ⟨by', oy + j, none⟩ = some (.int .i64 (val Y j))) := hcy'
  have R2 := Lib.hid r2
  have R3 := Lib.hid r3
  have hmk : ∀ W : World, (Instr.makeSlice 22 (.int .i64 N) (.int .i64 N)).run Try.prog W = .ok (.slice (some ⟨W.heap.size, 0, none⟩) N N) (W.alloc (.cells (zeros N) 3)) := make_ints N (by omega)
  have own0 := own_lit w3 3 (List.replicate N 0) (zeros N) rfl (by unfold maxLen; simp; omega)
  rw [List.length_replicate, filL_zero N (fun S => val V S + val Y S)] at own0
  have hb0 : Below w3.heap.size w3 (w3.alloc (.cells (zeros N) 3)) := (Below.refl _ w3).alloc (Nat.le_refl _) _
  have HST : Hid (∀ k, k < N → (filL N (fun S => val V S + val Y S) k).set k (val V k + val Y k) = filL N (fun S => val V S + val Y S) (k + 1)) := fun k hk => filL_set (fun S => val V S + val Y S) hk
  have HEN := Lib.hid (filL_end N (fun S => val V S + val Y S))
  clear o2 o3 hb3 hb02 hcv hcy' hN r2 r3
  generalize (fun S => val V S + val Y S) = F at *
  go_wp2_with fail
  clear hmk
  generalize w3.alloc (.cells (zeros N) 3) = w4 at *
  obtain ⟨g, hg⟩ : ∃ g, g = w3.heap.size := ⟨_, rfl⟩
  have hg1 : w3.heap.size ≤ g := by omega
  have own1 : w4.ownsRow w3.heap.size 3 1 (.slice (some ⟨g, 0, none⟩) N N) N (I (filL N F 0)) := by rw [hg]; exact own0
  rw [← hg]
  clear own0 hg
  go_loopw [36] (fun iv wr => ∃ k : Nat, k ≤ N ∧ iv = .int .i64 k ∧ wr.ownsRow w3.heap.size 3 1 (.slice (some ⟨g, 0, none⟩) N N) N (I (filL N F k)) ∧ Below w3.heap.size w3 wr) (fun iv _ => N - (intOf iv).toNat)
  case atStart => exact ⟨0, Nat.zero_le _, rfl, own1, hb0⟩
  case round =>
    obtain ⟨k, hk, rfl, own, hbel⟩ := hrel
    clear own1 hb0
    by_cases hkN : k < N
    · have r1 : wr.cell? ⟨bv, ov + k, none⟩ = some (.int .i64 (val V k)) := (hbel.cell (by show bv < _; omega)).trans (HCV.out k hkN)
      have r2 : wr.cell? ⟨by', oy + k, none⟩ = some (.int .i64 (val Y k)) := (hbel.cell (by show by' < _; omega)).trans (HCY.out k hkN)
      have hst := HST.out k hkN
      have v1 := HV.out k hkN
      have v2 := HW.out k hkN
      generalize val V k = x1 at *
      generalize val Y k = x2 at *
      have ck := own_cell own k hkN
      have fk := own.frozenAt k
      obtain ⟨s1, g1⟩ := own.stored k (.int .i64 (x1 + x2))
      have es : (I (filL N F k)).set k (.int .i64 (x1 + x2)) = I (filL N F (k + 1)) := by
        rw [← hst]; unfold I; rw [List.map_set]
      rw [es] at s1
      have hb5 := hbel.grown g1 hbel.size (fun z hz2 => by injection hz2 with hz2; omega)
      clear es g1 hst own hbel
      go_wp2_with fail
      go_region
      all_goals
        go_wp2
        go_roundw
        case rel => exact ⟨k + 1, by omega, by go_num, own_drewN s1 _, below_drewN hb5 _⟩
        case measure => simp [intOf]; omega
    · obtain rfl : k = N := by omega
      rw [HEN.out] at own
      have RW := Lib.hid (Rd.of_own own)
      have HB := Lib.hid hbel
      have HB3 := Lib.hid hb03
      have hlst := (hbel.cell (p := ⟨bv, ov + (k - 1), none⟩) (by show bv < _; omega)).trans (HCV.out (k - 1) (by omega))
      have hbw : bv < wr.heap.size := Nat.lt_of_lt_of_le hbv hbel.size
      clear own hbel hb03 HST HCV HCY
      go_wp2_with fail
      refine (share_useW SS.out HG.out HGL.out _ c2 hc2 wr (rd_ext R2.out HB.out)).mono ?_
      rintro e w4 ⟨a4, c4, rfl, hc4, r4, hb4⟩
      go_wp2_with fail
      refine (share_useW SS.out HGY.out HGLY.out _ c3 hc3 w4 (rd_ext (rd_ext R3.out HB.out) hb4)).mono ?_
      rintro e w5 ⟨a5, c5, rfl, hc5, r5, hb5⟩
      go_wp2_with fail
      refine (share_useW SS.out HGB.out (funL_len k F) (some ⟨g, 0, none⟩) k (Nat.le_refl _) w5 (rd_ext (rd_ext RW.out hb4) hb5)).mono ?_
      rintro e w6 ⟨a6, c6, rfl, hc6, r6, hb6⟩
      have b46 := ext_trans (ext_trans hb4 hb5) hb6
      have r46 := rd_ext (rd_ext r4 hb5) hb6
      have r56 := rd_ext r5 hb6
      have hlst6 := (b46.cell (p := ⟨bv, ov + (k - 1), none⟩) hbw).trans hlst
      have hb06 := ext_trans (ext_trans HB3.out HB.out) b46
      have hbw6 := Nat.lt_of_lt_of_le hbw b46.size
      clear r4 r5 hb4 hb5 hb6 SS RW R2 R3 HB HB3 b46 hlst hbw
      go_wp2_with fail
      refine (good_zero w6.heap.size 0 3 3 _ (by omega) (zeros_at w6 23 3 #[.int .i64 0, .int .i64 0, .int .i64 0] rfl)).mono ?_
      rintro e w7 ⟨rfl, rfl⟩
      have b7 : Below w6.heap.size w6 (w6.alloc (.cells #[.int .i64 0, .int .i64 0, .int .i64 0] 23)) := (Below.refl _ _).alloc (Nat.le_refl _) _
      have hb07 := ext_trans hb06 b7
      have QS := Lib.hid (fun j => sumS_use HG.out a4 c4 ((w6.alloc (.cells #[.int .i64 0, .int .i64 0, .int .i64 0] 23)).drewN j) ((rd_ext r46 b7).drewN j))
      have c46 := (rd_ext r46 b7).2 (by omega)
      have c56 := (rd_ext r56 b7).2 (by omega)
      have c66 := (rd_ext r6 b7).2 (by omega)
      obtain ⟨b4, o4, rfl, _, q4⟩ := c46
      obtain ⟨b5, o5, rfl, _, q5⟩ := c56
      obtain ⟨b6, o6, rfl, _, q6⟩ := c66
      have hlst7 := (b7.cell (p := ⟨bv, ov + (k - 1), none⟩) (by exact hbw6)).trans hlst6
      have Q4 : Hid (∀ i, i < n → (w6.alloc (.cells #[.int .i64 0, .int .i64 0, .int .i64 0] 23)).cell? ⟨b4, o4 + i, none⟩ = some (.int .i64 (shG (val V) n i))) := fun i hi => by rw [q4 i hi, shL_at V hi]
      have Q5 : Hid (∀ i, i < n → (w6.alloc (.cells #[.int .i64 0, .int .i64 0, .int .i64 0] 23)).cell? ⟨b5, o5 + i, none⟩ = some (.int .i64 (shG (val Y) n i))) := fun i hi => by rw [q5 i hi, shL_at Y hi]
      have Q6 : Hid (∀ i, i < n → (w6.alloc (.cells #[.int .i64 0, .int .i64 0, .int .i64 0] 23)).cell? ⟨b6, o6 + i, none⟩ = some (.int .i64 (shG (val V) n i + shG (val Y) n i))) := fun i hi => by rw [q6 i hi, shL_at (funL k F) hi, HSUM.out i hi]
      have HBV : Hid (∀ i : Int, -1440000000 ≤ shG (val V) n i ∧ shG (val V) n i ≤ 1440000000) := fun i => sh_bd HG.out i
      have HBY : Hid (∀ i : Int, -1440000000 ≤ shG (val Y) n i ∧ shG (val Y) n i ≤ 1440000000) := fun i => sh_bd HGY.out i
      have hvl := HV.out (k - 1) (by omega)
      have HFN : Hid (fact n ≤ 720) := fact_le6 n (by omega)
      rw [HN.out] at QS
      clear r46 r56 r6 b7 hb06 q4 q5 q6 hlst6 hbw6 HSUM
      generalize w6.alloc (.cells #[.int .i64 0, .int .i64 0, .int .i64 0] 23) = w7 at *
      obtain ⟨j1, hj1⟩ : ∃ j1 : Nat, k - 1 = j1 := ⟨_, rfl⟩
      have z1 : (k : Int) - 1 = (j1 : Int) := by omega
      have q1 : (j1 : Int) < (k : Int) := by omega
      rw [hj1] at QS hlst7 hvl
      clear hj1
      generalize val V j1 = vl at *
      go_wp2_with fail
      -- how many rows
      go_loop [17, 18] (fun mv kv => ∃ t : Nat, 2 ≤ t ∧ t ≤ n + 1 + 1 ∧ (t ≤ n + 1 ∨ n = 0) ∧ kv = .int .i64 t ∧ mv = .int .i64 ((fact (t - 1) : Nat) : Int)) (fun _ kv => n + 2 - (intOf kv).toNat)
      case atStart => exact ⟨2, Nat.le_refl _, by omega, by omega, rfl, rfl⟩
      case round =>
        obtain ⟨t, ht2, htn, htm, rfl, rfl⟩ := hrel
        by_cases htl : t ≤ n
        · have hf1 := fact_le6 (t - 1) (by omega)
          have hf2 := fact_le6 t (by omega)
          have e1 : ((fact (t - 1) : Nat) : Int) * (t : Int) = ((fact t : Nat) : Int) := by
            obtain ⟨s, rfl⟩ : ∃ s, t = s + 1 := ⟨t - 1, by omega⟩
            rw [Nat.add_sub_cancel, fact]
            simp
          have HF : Hid (fact (t + 1 - 1) = fact t) := by show _ = _; rw [Nat.add_sub_cancel]
          generalize fact (t - 1) = F1 at *
          generalize fact t = F2 at *
          go_wp2
          go_round
          case rel => exact ⟨t + 1, by omega, by omega, .inl (by omega), by go_num, by rw [HF.out]⟩
          case measure => simp [intOf]; omega
        · have hte : t = n + 1 := by omega
          have HF : Hid (fact (t - 1) = fact n) := by show _ = _; rw [hte, Nat.add_sub_cancel]
          rw [HF.out]
          have htz : ¬ (t : Int) ≤ (n : Int) := by omega
          clear hte
          have hfn := HFN.out
          generalize fact n = FN at *
          go_wp2_with fail
          go_loopw [104] (fun iv wr => ∃ (i d : Nat), i ≤ n ∧ iv = .int .i64 i ∧ Hid (wr = w7.drewN d)) (fun iv _ => n - (intOf iv).toNat)
          case atStart => exact ⟨0, 0, Nat.zero_le _, rfl, (show Hid _ from by show _ = _; rfl)⟩
          case round =>
            obtain ⟨i, d, hi, rfl, HWR⟩ := hrel
            by_cases hin : i < n
            · have r1 : wr.cell? ⟨b4, o4 + i, none⟩ = some (.int .i64 (shG (val V) n i)) := by rw [HWR.out]; exact Q4.out i hin
              have r2 : wr.cell? ⟨b5, o5 + i, none⟩ = some (.int .i64 (shG (val Y) n i)) := by rw [HWR.out]; exact Q5.out i hin
              have r3 : wr.cell? ⟨b6, o6 + i, none⟩ = some (.int .i64 (shG (val V) n i + shG (val Y) n i)) := by rw [HWR.out]; exact Q6.out i hin
              have y1 := HBV.out i
              have y2 := HBY.out i
              generalize shG (val V) n i = s1 at *
              generalize shG (val Y) n i = s2 at *
              go_wp2_with fail
              go_quiet (fail)
              go_wp2
              go_roundw
              case rel => exact ⟨i + 1, d + nq, by omega, by go_num, (show Hid _ from by show _ = _; rw [HWR.out, World.drewN_drewN])⟩
              case measure => simp [intOf]; omega
            · obtain rfl : i = n := by omega
              have rl : wr.cell? ⟨bv, ov + j1, none⟩ = some (.int .i64 vl) := by rw [HWR.out]; exact hlst7
              have QS2 : Hid (∀ j, Calls Try.prog 32 #[.slice (some ⟨b4, o4, none⟩) i c4] (wr.drewN j) fun e w' => e = .returned (.int .i64 ((FN : Int) * vl)) ∧ w' = wr.drewN j) := fun j => by
                have := QS.out (d + j)
                rw [← World.drewN_drewN, ← HWR.out] at this
                exact this.mono fun _ _ ⟨q1, q2⟩ => ⟨q1, q2.symm⟩
              have hbe : Below w.heap.size w wr := by rw [HWR.out]; exact below_drewN hb07 d
              have hprod : -100000 ≤ (FN : Int) * vl ∧ (FN : Int) * vl ≤ 100000 := by
                have f1 : (0 : Int) ≤ (FN : Int) := by omega
                have p1 := Int.mul_le_mul_of_nonneg_left hvl.1 f1
                have p2 := Int.mul_le_mul_of_nonneg_left hvl.2 f1
                omega
              obtain ⟨pr, hpr⟩ : ∃ pr, (FN : Int) * vl = pr := ⟨_, rfl⟩
              rw [hpr] at hprod QS2
              clear QS Q4 Q5 Q6 hlst7 HWR
              go_wp2_with fail
              go_quiet ((go_at_call 32; exact Calls.quiet_of_same (QS2.out _)))
              go_wp2
              go_ret
              exact ⟨by first | rfl | (congr 1; simp), below_drewN hbe _⟩
end Go.Proofs.Ythcaipnlgbnfkaa

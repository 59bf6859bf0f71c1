/-
  plumekeep.PowerVeto returns true, for every slice of ints and int, if package power keeps its contracts; nothing that was there is written.
-/
import Derived.Test.YtdoidajdfnbiiaaCPowers
import Derived.Test.YtdoidajdfnbiiaaPowerW
import Derived.BigQuiet
import Derived.Deep.QuietTactic
namespace Go.Proofs.Ytdoidajdfnbiiaa
open Go.RowKit Fm
set_option linter.unusedVariables false

set_option maxHeartbeats 4000000 in
set_option maxRecDepth 100000 in
theorem powerVeto_is (sS : PwSwings) (sT : PwTurns) (sW : PwWins) (v1 : Value) (l : List Int) {w : World} (f1 : IsInts w v1 l) (n0 : Int) (hn0 : -9223372036854775808 ≤ n0) (hn1 : n0 ≤ 9223372036854775807) :
    Calls Try.prog 8 #[v1, .int .i64 n0] w fun e w' => e = .returned (.bool true) ∧ Below w.heap.size w w' := by
  obtain ⟨a, c, rfl, hr, hox, hlc, _, hcm, _⟩ := f1
  have HR := Lib.hid hr
  have HO := Lib.hid hox
  have W0 : Hid (∀ W, Calls Try.prog 17 #[] W fun e w' => e = .returned (.bool true) ∧ Below W.heap.size W w') := fun W => powers_any sS sT W
  have SS : Hid PwSwings := sS
  have ST : Hid PwTurns := sT
  have SW : Hid PwWins := sW
  clear sS sT sW hr hox
  go_enter Try.func8, Try.ntmps8
  go_wp2_with fail
  refine (W0.out w).mono ?_
  rintro e w1 ⟨rfl, hb1⟩
  clear W0
  go_wp2_with fail
  refine (weightsOf_any a l.length c l n0 w1 (rd_ext HR.out hb1) hlc hcm HO.out hn0 hn1).mono ?_
  rintro e w2 ⟨ap, cp, q, rfl, hpc, rP, hg, hb2⟩
  have HBD : Hid (∀ x ∈ weightsOf l, 0 ≤ x ∧ x ≤ 19) := weightsK_bd l 5
  have G := Lib.hid hg
  have RP := Lib.hid rP
  have hb02 := ext_trans hb1 hb2
  generalize weightsOf l = P at *
  have hp1 := hg.pos
  have hp6 := hg.le
  have hq1 := hg.q1
  have hqs := hg.q2
  obtain ⟨n, hn⟩ : ∃ n, P.length = n := ⟨_, rfl⟩
  have HN := Lib.hid hn
  have hsb : sN (wt P) n ≤ 114 := by
    have h1 := sN_bd (f := wt P) (b := 19) (n := n) (fun i hi => by have := HBD.out _ (getD_mem P i (by rw [hn]; exact hi)); unfold wt; omega)
    omega
  rw [hn] at hp1 hp6 hpc hqs RP ⊢
  clear hb1 hb2 HR HO hg rP hn0 hn1
  have QS := Lib.hid (sw_use SS.out G.out HN.out ap cp hpc w2 RP.out)
  obtain ⟨N, hNN⟩ : ∃ N : Nat, 2 ^ n = N := ⟨_, rfl⟩
  have hN64 : N ≤ 64 := by rw [← hNN]; exact pow_le6 hp6
  have hpw : wrap64 (2 ^ n) = (N : Int) := by rw [← hNN]; exact pw_at hp6
  have QW : Hid (∀ S W, S < N → Below w2.heap.size w2 W → Calls Try.prog 9 #[.slice ap n cp, .int .i64 q, .int .i64 S] W fun e w' => e = .returned (.tuple #[.bool (winB2 (wt P) n q S), .int .i64 0]) ∧ Below W.heap.size W w') := fun S W hS hW => win_use SW.out G.out HN.out ap cp hpc (by rw [hNN]; exact hS) W (rd_ext RP.out hW)
  have HALL : Hid (cS (winB2 (wt P) n q) N = allN (wt P) n q) := by show _ = _; unfold allN; rw [hNN]
  have HCS : Hid (∀ t, cS (winB2 (wt P) n q) (t + 1) = cS (winB2 (wt P) n q) t + if winB2 (wt P) n q t = true then 1 else 0) := fun t => cS_succ _ t
  have HCL : Hid (∀ t, cS (winB2 (wt P) n q) t ≤ t) := fun t => cS_le _ t
  have HAT : Hid (∀ i, i < n → (swL P q).getD i 0 = swN (wt P) n q i ∧ swN (wt P) n q i ≤ allN (wt P) n q ∧ P.getD i 0 = wt P i ∧ wt P i ≤ 1000 ∧ (swN (wt P) n q i = allN (wt P) n q ↔ sN (wt P) n < q + wt P i)) := fun i hi => by
    obtain ⟨x1, x2⟩ := wt_at G.out.bd (i := i) (by rw [hn]; exact hi)
    have x3 := swL_at P q (i := i) (by rw [hn]; exact hi)
    rw [hn] at x3
    exact ⟨x3, sw_le q i, x1, x2, sw_veto hi hqs⟩
  have hap := all_pos (W := wt P) (n := n) hqs
  have QN : Hid (∀ W, Rd W w2.heap.size ap n P → Calls Try.prog 19 #[.slice ap n cp] W fun e w' => e = .returned (.int .i64 (sN (wt P) n)) ∧ w' = W) := fun W hr => wsum_use G.out.bd HN.out hp6 ap cp W w2.heap.size hr
  have hne3 : ((n : Int) != (n : Int)) = false := by simp
  clear hn hNN SS ST SW
  generalize sN (wt P) n = T at *
  go_wp2_with fail
  refine QS.out.mono ?_
  rintro e w3 ⟨a3, c3, rfl, r3, hb3⟩
  have R3 := Lib.hid r3
  have HB23 := Lib.hid hb3
  clear QS r3 hb3
  go_wp2_with fail
  try rw [hpw]
  clear hpw
  go_loopw [9, 41] (fun sv iv wr => ∃ t : Nat, t ≤ N ∧ iv = .int .i64 t ∧ sv = .int .i64 (cS (winB2 (wt P) n q) t) ∧ Below w3.heap.size w3 wr) (fun _ iv _ => N - (intOf iv).toNat)
  case atStart => exact ⟨0, Nat.zero_le _, rfl, rfl, Below.refl _ _⟩
  case round =>
    obtain ⟨t, ht, rfl, rfl, hbel⟩ := hrel
    by_cases htN : t < N
    · have QW1 := Lib.hid (QW.out t wr htN (ext_trans HB23.out hbel))
      have HS := Lib.hid (HCS.out t)
      have hcl := HCL.out t
      generalize cS (winB2 (wt P) n q) t = cc at *
      generalize winB2 (wt P) n q t = r at *
      go_wp2_with fail
      refine QW1.out.mono ?_
      rintro e w4 ⟨rfl, hb4⟩
      have hb34 := ext_trans hbel hb4
      clear QW1 hbel hb4
      cases r with
      | true =>
        rw [if_pos rfl] at HS
        go_wp2
        go_roundw
        case rel => exact ⟨t + 1, by omega, by go_num, by rw [HS.out]; go_num, hb34⟩
        case measure => simp [intOf]; omega
      | false =>
        rw [if_neg (by simp)] at HS
        go_wp2
        go_roundw
        case rel => exact ⟨t + 1, by omega, by go_num, by rw [HS.out]; rfl, hb34⟩
        case measure => simp [intOf]; omega
    · obtain rfl : t = N := by omega
      have hcl := HCL.out t
      rw [HALL.out] at hcl ⊢
      have RPW := Lib.hid ((RP.out.below HB23.out (Nat.le_refl _)).below hbel HB23.out.size)
      have R3W := Lib.hid (rd_ext R3.out hbel)
      have HB := Lib.hid (ext_trans hb02 (ext_trans HB23.out hbel))
      generalize allN (wt P) n q = A at *
      clear hbel QW HCS HCL HALL R3 HB23 RP hb02
      obtain ⟨b3, o3, rfl, _, hc3⟩ := R3W.out.2 (by omega)
      obtain ⟨b5, o5, rfl, _, hc5⟩ := RPW.out.2 (by omega)
      have C3 := Lib.hid hc3
      have C5 := Lib.hid hc5
      clear hc3 hc5 R3W
      have hA0 : (0 : Int) < (A : Int) := by omega
      obtain ⟨w9, rfl⟩ : ∃ w9, w9 = wr := ⟨_, rfl⟩
      go_wp2_with fail
      go_loopw [59] (fun iv wr => ∃ i : Nat, i ≤ n ∧ iv = .int .i64 i ∧ ∃ q, wr = w9.drewN q) (fun iv _ => n - (intOf iv).toNat)
      case atStart => exact ⟨0, Nat.zero_le _, rfl, 0, rfl⟩
      case round =>
        obtain ⟨i, hi, rfl, qi, hwi⟩ := hrel
        have HWI := Lib.hid hwi
        by_cases hin : i < n
        · obtain ⟨t1, t2, t3, t4, t5⟩ := HAT.out i hin
          have r1 : wr.cell? ⟨b3, o3 + i, none⟩ = some (.int .i64 (swN (wt P) n q i)) := by rw [hwi, ← t1]; exact C3.out i hin
          have r2 : wr.cell? ⟨b5, o5 + i, none⟩ = some (.int .i64 (wt P i)) := by rw [hwi, ← t3]; exact C5.out i hin
          have QNW : Hid (∀ W, W = wr → Calls Try.prog 19 #[.slice (some ⟨b5, o5, none⟩) n cp] W fun e w' => e = .returned (.int .i64 T) ∧ w' = W) := fun W hW => QN.out W (by rw [hW, hwi]; exact RPW.out.drewN qi)
          have QNJ : Hid (∀ j, Calls Try.prog 19 #[.slice (some ⟨b5, o5, none⟩) n cp] (wr.drewN j) fun e w' => e = .returned (.int .i64 T) ∧ w' = wr.drewN j) := fun j => QN.out (wr.drewN j) (by rw [hwi]; exact (RPW.out.drewN qi).drewN j)
          clear hwi t1 t3 QNW
          generalize swN (wt P) n q i = si at *
          generalize wt P i = wi at *
          have g1 : decide ((A : Int) < (si : Int)) = false := decide_eq_false (by omega)
          have g1' : decide (A < si) = false := decide_eq_false (by omega)
          by_cases hv : T < q + wi
          · have hs := t5.2 hv
            have g2 : ((si : Int) == (A : Int)) = true := by rw [hs]; simp
            have g2' : (si == A) = true := by rw [hs]; simp
            have g3 : decide ((T : Int) - (wi : Int) < (q : Int)) = true := decide_eq_true (by omega)
            clear t5 hs hv
            go_wp2_with fail
            go_quiet ((go_at_call 19; exact Calls.quiet_of_same (QNJ.out _)))
            go_wp2
            go_roundw
            case rel => exact ⟨i + 1, by omega, by go_num, qi + nq, by rw [HWI.out, World.drewN_drewN]⟩
            case measure => simp [intOf]; omega
          · have hs : si ≠ A := fun e => hv (t5.1 e)
            have g2 : ((si : Int) == (A : Int)) = false := beq_eq_false_iff_ne.2 (by omega)
            have g2' : (si == A) = false := beq_eq_false_iff_ne.2 hs
            have g3 : decide ((T : Int) - (wi : Int) < (q : Int)) = false := decide_eq_false (by omega)
            clear t5 hs hv
            go_wp2_with fail
            go_quiet ((go_at_call 19; exact Calls.quiet_of_same (QNJ.out _)))
            go_wp2
            go_roundw
            case rel => exact ⟨i + 1, by omega, by go_num, qi + nq, by rw [HWI.out, World.drewN_drewN]⟩
            case measure => simp [intOf]; omega
        · obtain rfl : i = n := by omega
          clear hwi
          go_wp2
          go_ret
          exact ⟨by simp, by rw [HWI.out]; exact below_drewN HB.out _⟩
end Go.Proofs.Ytdoidajdfnbiiaa

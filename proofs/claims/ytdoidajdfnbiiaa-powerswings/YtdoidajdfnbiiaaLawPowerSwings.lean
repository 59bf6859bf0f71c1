/-
  plumekeep.PowerSwings returns true, for every slice of ints and int, if package power keeps its contracts; nothing that was there is written.
-/
import Derived.Test.YtdoidajdfnbiiaaCPowers
import Derived.Test.YtdoidajdfnbiiaaPowerW
import Derived.BigQuiet
import Derived.Deep.QuietTactic
namespace Go.Proofs.Ytdoidajdfnbiiaa
open Go.RowKit Fm
set_option linter.unusedVariables false

theorem bitv_at : ∀ s : Nat, s < 64 → ∀ x : Nat, x < 6 → bits BinOp.and IntKind.i64 ((s : Int) / 2 ^ x) 1 = ((if s.testBit x = true then 1 else 0 : Nat) : Int) := by decide +kernel

set_option maxHeartbeats 4000000 in
set_option maxRecDepth 100000 in
theorem powerSwings_is (sS : PwSwings) (sT : PwTurns) (sW : PwWins) (v1 : Value) (l : List Int) {w : World} (f1 : IsInts w v1 l) (n0 : Int) (hn0 : -9223372036854775808 ≤ n0) (hn1 : n0 ≤ 9223372036854775807) :
    Calls Try.prog 5 #[v1, .int .i64 n0] w fun e w' => e = .returned (.bool true) ∧ Below w.heap.size w w' := by
  obtain ⟨a, c, rfl, hr, hox, hlc, _, hcm, _⟩ := f1
  have HR := Lib.hid hr
  have HO := Lib.hid hox
  have W0 : Hid (∀ W, Calls Try.prog 17 #[] W fun e w' => e = .returned (.bool true) ∧ Below W.heap.size W w') := fun W => powers_any sS sT W
  have SS : Hid PwSwings := sS
  have ST : Hid PwTurns := sT
  have SW : Hid PwWins := sW
  clear sS sT sW hr hox
  go_enter Try.func5, Try.ntmps5
  go_wp2_with fail
  refine (W0.out w).mono ?_
  rintro e w1 ⟨rfl, hb1⟩
  clear W0
  go_wp2_with fail
  refine (weightsOf_any a l.length c l n0 w1 (rd_ext HR.out hb1) hlc hcm HO.out hn0 hn1).mono ?_
  rintro e w2 ⟨ap, cp, q, rfl, hpc, rP, hg, hb2⟩
  have HBD : Hid (∀ x ∈ weightsOf l, 0 ≤ x ∧ x ≤ 19) := weightsK_bd l 5
  have G := Lib.hid hg
  have RP := Lib.hid rP
  have hb02 := ext_trans hb1 hb2
  generalize weightsOf l = P at *
  have hp1 := hg.pos
  have hp6 := hg.le
  have hq1 := hg.q1
  have hqs := hg.q2
  obtain ⟨n, hn⟩ : ∃ n, P.length = n := ⟨_, rfl⟩
  have HN := Lib.hid hn
  have hsb : sN (wt P) n ≤ 114 := by
    have h1 := sN_bd (f := wt P) (b := 19) (n := n) (fun i hi => by have := HBD.out _ (getD_mem P i (by rw [hn]; exact hi)); unfold wt; omega)
    omega
  rw [hn] at hp1 hp6 hpc hqs RP ⊢
  clear hb1 hb2 HR HO hg rP hn0 hn1
  have QS := Lib.hid (sw_use SS.out G.out HN.out ap cp hpc w2 RP.out)
  obtain ⟨N, hNN⟩ : ∃ N : Nat, 2 ^ n = N := ⟨_, rfl⟩
  have hN64 : N ≤ 64 := by rw [← hNN]; exact pow_le6 hp6
  have hpw : wrap64 (2 ^ n) = (N : Int) := by rw [← hNN]; exact pw_at hp6
  have HPW := Lib.hid hpw
  have QW : Hid (∀ S W, S < N → Below w2.heap.size w2 W → Calls Try.prog 9 #[.slice ap n cp, .int .i64 q, .int .i64 S] W fun e w' => e = .returned (.tuple #[.bool (winB2 (wt P) n q S), .int .i64 0]) ∧ Below W.heap.size W w') := fun S W hS hW => win_use SW.out G.out HN.out ap cp hpc (by rw [hNN]; exact hS) W (rd_ext RP.out hW)
  have HC1 : Hid (∀ t, cS (winB2 (wt P) n q) (t + 1) = cS (winB2 (wt P) n q) t + if winB2 (wt P) n q t = true then 1 else 0) := fun t => cS_succ _ t
  have HC2 : Hid (∀ i t, cS (fun S => winB2 (wt P) n q S && S.testBit i) (t + 1) = cS (fun S => winB2 (wt P) n q S && S.testBit i) t + if (winB2 (wt P) n q t && t.testBit i) = true then 1 else 0) := fun i t => cS_succ _ t
  have HCL : Hid (∀ (p : Nat → Bool) t, cS p t ≤ t) := fun p t => cS_le _ t
  have HAT : Hid (∀ i, i < n → (swL P q).getD i 0 = swN (wt P) n q i ∧ swN (wt P) n q i ≤ 64 ∧ P.getD i 0 = wt P i ∧ wt P i ≤ 1000 ∧ swN (wt P) n q i + cS (winB2 (wt P) n q) N = 2 * cS (fun S => winB2 (wt P) n q S && S.testBit i) N) := fun i hi => by
    obtain ⟨x1, x2⟩ := wt_at G.out.bd (i := i) (by rw [hn]; exact hi)
    have x3 := swL_at P q (i := i) (by rw [hn]; exact hi)
    have x4 := sw_bd (P := P) (q := q) (i := i) (by rw [hn]; exact hp6)
    have x5 := sw_with (W := wt P) (q := q) hi
    unfold allN withN at x5
    rw [hn] at x3 x4
    rw [hNN] at x5
    exact ⟨x3, x4, x1, x2, x5⟩
  have HMONO : Hid (∀ i k, i < n → k < n → wt P k ≤ wt P i → swN (wt P) n q k ≤ swN (wt P) n q i) := fun i k hi hk h => sw_mono hi hk h
  have hne3 : ((n : Int) != (n : Int)) = false := by simp
  clear hn hNN SS ST SW hpw hqs hsb
  go_wp2_with fail
  refine QS.out.mono ?_
  rintro e w3 ⟨a3, c3, rfl, r3, hb3⟩
  have HB23 := Lib.hid hb3
  have r23 := rd_ext RP.out hb3
  have HB03 := Lib.hid (ext_trans hb02 hb3)
  clear QS hb3 hb02
  obtain ⟨b3, o3, rfl, hbb3, hc3⟩ := r3.2 (by omega)
  obtain ⟨b5, o5, rfl, hbb5, hc5⟩ := r23.2 (by omega)
  have C3 := Lib.hid hc3
  have C5 := Lib.hid hc5
  clear hc3 hc5 r3 r23 RP
  go_wp2_with fail
  go_loopw [41] (fun iv wr => ∃ i : Nat, i ≤ n ∧ iv = .int .i64 i ∧ Below w3.heap.size w3 wr) (fun iv _ => n - (intOf iv).toNat)
  case atStart => exact ⟨0, Nat.zero_le _, rfl, Below.refl _ _⟩
  case round =>
    obtain ⟨i, hi, rfl, hbi⟩ := hrel
    by_cases hin : i < n
    · obtain ⟨t1, t2, t3, t4, t5⟩ := HAT.out i hin
      have HT1 := Lib.hid t1
      have HT3 := Lib.hid t3
      have HT5 := Lib.hid t5
      have HMI : Hid (∀ j, j < n → wt P j ≤ wt P i → swN (wt P) n q j ≤ swN (wt P) n q i) := fun j hj h => HMONO.out i j hin hj h
      have HC2i := Lib.hid (HC2.out i)
      clear t1 t3 t5
      generalize swN (wt P) n q i = si at *
      generalize wt P i = wi at *
      obtain ⟨wo, rfl⟩ : ∃ wo, wo = wr := ⟨_, rfl⟩
      go_wp2_with fail
      rw [HPW.out]
      go_loopw [10, 11, 47] (fun wv av sv wr => ∃ (t x y : Nat), t ≤ N ∧ sv = .int .i64 t ∧ wv = .int .i64 (x : Int) ∧ av = .int .i64 (y : Int) ∧ x = cS (fun S => winB2 (wt P) n q S && S.testBit i) t ∧ y = cS (winB2 (wt P) n q) t ∧ x ≤ 64 ∧ y ≤ 64 ∧ Below w3.heap.size w3 wr) (fun _ _ sv _ => N - (intOf sv).toNat)
      case atStart => exact ⟨0, 0, 0, Nat.zero_le _, rfl, rfl, rfl, rfl, rfl, by omega, by omega, hbi⟩
      case round =>
        obtain ⟨t, x, y, ht, rfl, rfl, rfl, hx, hy, hx64, hy64, hbel⟩ := hrel
        clear hbi
        have HX := Lib.hid hx
        have HY := Lib.hid hy
        clear hx hy
        by_cases htN : t < N
        · have QW1 := Lib.hid (QW.out t wr htN (ext_trans HB23.out hbel))
          have HSX := Lib.hid (HC2i.out t)
          have HSY := Lib.hid (HC1.out t)
          rw [← HX.out] at HSX
          rw [← HY.out] at HSY
          have h64x : cS (fun S => winB2 (wt P) n q S && S.testBit i) (t + 1) ≤ 64 := Nat.le_trans (HCL.out _ _) (by omega)
          have h64y : cS (winB2 (wt P) n q) (t + 1) ≤ 64 := Nat.le_trans (HCL.out _ _) (by omega)
          have hbv := bitv_at t (by omega) i (by omega)
          have hbx := h64x
          have hby := h64y
          rw [HSX.out] at hbx
          rw [HSY.out] at hby
          have HX6 := Lib.hid h64x
          have HY6 := Lib.hid h64y
          clear h64x h64y
          generalize winB2 (wt P) n q t = r at *
          go_wp2_with fail
          refine QW1.out.mono ?_
          rintro e w4 ⟨rfl, hb4⟩
          have hb34 := ext_trans hbel hb4
          clear QW1 hbel hb4
          cases r with
          | true =>
            rw [if_pos rfl] at HSY hby
            rw [Bool.true_and] at HSX hbx
            generalize hbb : (if t.testBit i = true then 1 else 0 : Nat) = bb at *
            clear hbb
            go_wp2
            go_roundw
            case rel => exact ⟨t + 1, x + bb, y + 1, by omega, by go_num, by go_num, by go_num, by rw [HSX.out], by rw [HSY.out], by omega, by omega, hb34⟩
            case measure => simp [intOf]; omega
          | false =>
            rw [if_neg (by simp)] at HSY
            rw [Bool.false_and, if_neg (by simp)] at HSX
            clear hbx hby hbv
            go_wp2
            go_roundw
            case rel => exact ⟨t + 1, x, y, by omega, by go_num, rfl, rfl, by rw [HSX.out]; rfl, by rw [HSY.out]; rfl, hx64, hy64, hb34⟩
            case measure => simp [intOf]; omega
        · obtain rfl : t = N := by omega
          have h5 := HT5.out
          rw [← HX.out, ← HY.out] at h5
          have r1 : wr.cell? ⟨b3, o3 + i, none⟩ = some (.int .i64 si) := by rw [hbel.cell (by exact hbb3), ← HT1.out]; exact C3.out i hin
          have g1 : ((si : Int) != 2 * (x : Int) - (y : Int)) = false := by simp; omega
          have C3W : Hid (∀ j, j < n → wr.cell? ⟨b3, o3 + j, none⟩ = some (.int .i64 ((swL P q).getD j 0))) := fun j hj => by rw [hbel.cell (by exact hbb3)]; exact C3.out j hj
          have C5W : Hid (∀ j, j < n → wr.cell? ⟨b5, o5 + j, none⟩ = some (.int .i64 (P.getD j 0))) := fun j hj => by rw [hbel.cell (by exact hbb5)]; exact C5.out j hj
          have HBI := Lib.hid hbel
          clear h5 HX HY hbel
          obtain ⟨w9, rfl⟩ : ∃ w9, w9 = wr := ⟨_, rfl⟩
          go_wp2_with fail
          clear r1 g1
          go_loopw [80] (fun jv wr => ∃ j : Nat, j ≤ n ∧ jv = .int .i64 j ∧ ∃ q, wr = w9.drewN q) (fun jv _ => n - (intOf jv).toNat)
          case atStart => exact ⟨0, Nat.zero_le _, rfl, 0, rfl⟩
          case round =>
            obtain ⟨j, hj, rfl, qj, hwj⟩ := hrel
            have HWJ := Lib.hid hwj
            by_cases hjn : j < n
            · obtain ⟨u1, u2, u3, u4, _⟩ := HAT.out j hjn
              have s1 : wr.cell? ⟨b3, o3 + j, none⟩ = some (.int .i64 (swN (wt P) n q j)) := by rw [hwj, ← u1]; exact C3W.out j hjn
              have s2 : wr.cell? ⟨b5, o5 + j, none⟩ = some (.int .i64 (wt P j)) := by rw [hwj, ← u3]; exact C5W.out j hjn
              have s3 : wr.cell? ⟨b3, o3 + i, none⟩ = some (.int .i64 si) := by rw [hwj, ← HT1.out]; exact C3W.out i hin
              have s4 : wr.cell? ⟨b5, o5 + i, none⟩ = some (.int .i64 wi) := by rw [hwj, ← HT3.out]; exact C5W.out i hin
              have hmj := HMI.out j hjn
              clear hwj u1 u3
              generalize swN (wt P) n q j = sj at *
              generalize wt P j = wj at *
              by_cases hww : wj ≤ wi
              · have hmj := hmj hww
                have q0 : decide (wj ≤ wi) = true := decide_eq_true hww
                have q1 : decide ((si : Int) < (sj : Int)) = false := decide_eq_false (by omega)
                have q1' : decide (si < sj) = false := decide_eq_false (by omega)
                clear hmj
                go_wp2_with fail
                go_quiet (fail)
                go_wp2
                go_roundw
                case rel => exact ⟨j + 1, by omega, by go_num, qj + nq, by rw [HWJ.out, World.drewN_drewN]⟩
                case measure => simp [intOf]; omega
              · have q0 : decide (wj ≤ wi) = false := decide_eq_false hww
                have q0' : decide ((wj : Int) ≤ (wi : Int)) = false := decide_eq_false (by omega)
                clear hmj
                go_wp2_with fail
                go_quiet (fail)
                go_wp2
                go_roundw
                case rel => exact ⟨j + 1, by omega, by go_num, qj + nq, by rw [HWJ.out, World.drewN_drewN]⟩
                case measure => simp [intOf]; omega
            · obtain rfl : j = n := by omega
              clear hwj
              go_wp2
              go_roundw
              case rel => exact ⟨i + 1, by omega, by go_num, by rw [HWJ.out]; exact below_drewN HBI.out _⟩
              case measure => simp [intOf]; omega
    · obtain rfl : i = n := by omega
      go_wp2
      go_ret
      exact ⟨rfl, ext_trans HB03.out hbi⟩
end Go.Proofs.Ytdoidajdfnbiiaa

/-
  plumekeep.PowerTurns returns true, for every slice of ints and int, if package power keeps its contracts; nothing that was there is written.
-/
import Derived.Test.YtdoidajdfnbiiaaCPowers
import Derived.BigQuiet
import Derived.Deep.QuietTactic
namespace Go.Proofs.Ytdoidajdfnbiiaa
open Go.RowKit Fm
set_option linter.unusedVariables false

theorem fact_bd : ∀ k, k ≤ 6 → fact k ≤ 720 := fun k hk => fact_le hk

set_option maxHeartbeats 4000000 in
set_option maxRecDepth 100000 in
theorem powerTurns_is (sS : PwSwings) (sT : PwTurns) (v1 : Value) (l : List Int) {w : World} (f1 : IsInts w v1 l) (n0 : Int) (hn0 : -9223372036854775808 ≤ n0) (hn1 : n0 ≤ 9223372036854775807) :
    Calls Try.prog 4 #[v1, .int .i64 n0] w fun e w' => e = .returned (.bool true) ∧ Below w.heap.size w w' := by
  obtain ⟨a, c, rfl, hr, hox, hlc, _, hcm, _⟩ := f1
  have HR := Lib.hid hr
  have HO := Lib.hid hox
  have W0 : Hid (∀ W, Calls Try.prog 17 #[] W fun e w' => e = .returned (.bool true) ∧ Below W.heap.size W w') := fun W => powers_any sS sT W
  have SS : Hid PwSwings := sS
  have ST : Hid PwTurns := sT
  clear sS sT hr hox
  go_enter Try.func4, Try.ntmps4
  go_wp2_with fail
  refine (W0.out w).mono ?_
  rintro e w1 ⟨rfl, hb1⟩
  clear W0
  go_wp2_with fail
  refine (weightsOf_any a l.length c l n0 w1 (rd_ext HR.out hb1) hlc hcm HO.out hn0 hn1).mono ?_
  rintro e w2 ⟨ap, cp, q, rfl, hpc, rP, hg, hb2⟩
  have HBD : Hid (∀ x ∈ weightsOf l, 0 ≤ x ∧ x ≤ 19) := weightsK_bd l 5
  have G := Lib.hid hg
  have RP := Lib.hid rP
  have hb02 := ext_trans hb1 hb2
  generalize weightsOf l = P at *
  have hp1 := hg.pos
  have hp6 := hg.le
  have hq1 := hg.q1
  have hqs := hg.q2
  obtain ⟨n, hn⟩ : ∃ n, P.length = n := ⟨_, rfl⟩
  have HN := Lib.hid hn
  have hsb : sN (wt P) n ≤ 114 := by
    have h1 := sN_bd (f := wt P) (b := 19) (n := n) (fun i hi => by have := HBD.out _ (getD_mem P i (by rw [hn]; exact hi)); unfold wt; omega)
    omega
  rw [hn] at hp1 hp6 hpc hqs RP ⊢
  clear hb1 hb2 HR HO hg rP hn0 hn1
  have QT := Lib.hid (tu_use ST.out G.out HN.out ap cp hpc w2 RP.out)
  have HSUM : Hid ((tuL P q).sum = (fact n : Int)) := by
    show _ = _
    unfold tuL
    rw [fnL_sum (tuN (wt P) P.length q), tu_sumN G.out.q1 G.out.q2, hn, allO_len (by omega) (by omega)]
  have HAT : Hid (∀ i, i < n → (tuL P q).getD i 0 = tuN (wt P) n q i ∧ tuN (wt P) n q i ≤ 720 ∧ P.getD i 0 = wt P i ∧ wt P i ≤ 1000 ∧ (wt P i = 0 → tuN (wt P) n q i = 0)) := fun i hi => by
    subst hn
    obtain ⟨x1, x2⟩ := wt_at G.out.bd hi
    exact ⟨tuL_at P q hi, tu_bd hp1 hp6, x1, x2, fun h => tu_null h⟩
  have HMONO : Hid (∀ i k, i < n → k < n → wt P k ≤ wt P i → tuN (wt P) n q k ≤ tuN (wt P) n q i) := fun i k hi hk h => tu_mono hi hk h
  have HMEM : Hid (∀ x ∈ tuL P q, 0 ≤ x ∧ x ≤ 720) := fun x hx => by
    obtain ⟨i, hi, rfl⟩ := List.getElem_of_mem hx
    have hi' : i < P.length := by rw [tuL_len] at hi; exact hi
    rw [← getD_get hi, tuL_at _ _ hi']
    have := tu_bd (q := q) (i := i) (P := P) (by omega) (by omega)
    omega
  have HF : Hid (∀ k, k ≤ 6 → fact k ≤ 720) := fact_bd
  have HFS : Hid (∀ k, fact (k + 1) = (k + 1) * fact k) := fun k => by rw [fact, Nat.mul_comm]
  have hne3 : ((n : Int) != (n : Int)) = false := by simp
  clear hn SS ST
  go_wp2_with fail
  refine QT.out.mono ?_
  rintro e w3 ⟨a3, c3, rfl, r3, hb3⟩
  have RP3 := Lib.hid (rd_ext RP.out hb3)
  have R3 := Lib.hid r3
  have HB3 := Lib.hid (ext_trans hb02 hb3)
  clear QT hb02 hb3 r3 RP
  go_wp2_with fail
  go_loop [9, 10] (fun mv kv => ∃ k f : Nat, 1 ≤ k ∧ k ≤ n ∧ kv = .int .i64 ((k + 1 : Nat) : Int) ∧ mv = .int .i64 (f : Int) ∧ f = fact k) (fun _ kv => n + 1 - (intOf kv).toNat)
  case atStart => exact ⟨1, 1, by omega, by omega, rfl, rfl, rfl⟩
  case round =>
    obtain ⟨k, f, hk1, hk, rfl, rfl, hf⟩ := hrel
    by_cases hkn : k + 1 ≤ n
    · have hf7 : f ≤ 720 := by rw [hf]; exact HF.out k (by omega)
      obtain ⟨F, hF⟩ : ∃ F : Nat, f * (k + 1) = F := ⟨_, rfl⟩
      have hFF : F = fact (k + 1) := by rw [← hF, hf, HFS.out, Nat.mul_comm]
      have hF7 : F ≤ 720 := by rw [hFF]; exact HF.out (k + 1) (by omega)
      have m1 : (f : Int) * ((k : Int) + 1) = (F : Int) := by rw [← hF, Int.natCast_mul]; rfl
      have HFF := Lib.hid hFF
      have hkc : ((k : Int) + 1) ≤ (n : Int) := by omega
      clear hF hf hFF
      go_wp2
      go_round
      case rel => exact ⟨k + 1, F, by omega, by omega, by go_num, rfl, HFF.out⟩
      case measure => simp [intOf]; omega
    · obtain rfl : k = n := by omega
      have HFK := Lib.hid hf
      clear hf
      have hkc : ¬ ((k : Int) + 1) ≤ (k : Int) := by omega
      have hf7 : f ≤ 720 := by rw [HFK.out]; exact HF.out k (by omega)
      have QN := Lib.hid (fun W (hW : ∃ j, W = w3.drewN j) => sumK_any a3 k c3 (tuL P q) W w3.heap.size (by obtain ⟨j, rfl⟩ := hW; exact R3.out.drewN j) (by omega) (fun x hx => by have := HMEM.out x hx; omega))
      rw [HSUM.out, ← HFK.out] at QN
      obtain ⟨b3, o3, rfl, _, hc3⟩ := R3.out.2 (by omega)
      obtain ⟨b5, o5, rfl, _, hc5⟩ := RP3.out.2 (by omega)
      have C3 := Lib.hid hc3
      have C5 := Lib.hid hc5
      clear hc3 hc5 R3 RP3
      have hff : ((f : Int) == (f : Int)) = true := by simp
      go_wp2_with fail
      go_loopw [47] (fun iv wr => ∃ i : Nat, i ≤ k ∧ iv = .int .i64 i ∧ ∃ q, wr = w3.drewN q) (fun iv _ => k - (intOf iv).toNat)
      case atStart => exact ⟨0, Nat.zero_le _, rfl, 0, rfl⟩
      case round =>
        obtain ⟨i, hi, rfl, qi, hwi⟩ := hrel
        have HWI := Lib.hid hwi
        by_cases hin : i < k
        · obtain ⟨t1, t2, t3, t4, t5⟩ := HAT.out i hin
          have r1 : wr.cell? ⟨b3, o3 + i, none⟩ = some (.int .i64 (tuN (wt P) k q i)) := by rw [hwi, ← t1]; exact C3.out i hin
          have r2 : wr.cell? ⟨b5, o5 + i, none⟩ = some (.int .i64 (wt P i)) := by rw [hwi, ← t3]; exact C5.out i hin
          have HMI : Hid (∀ j, j < k → wt P j ≤ wt P i → tuN (wt P) k q j ≤ tuN (wt P) k q i) := fun j hj h => HMONO.out i j hin hj h
          have HEI : Hid ((tuL P q).getD i 0 = (tuN (wt P) k q i : Int) ∧ P.getD i 0 = (wt P i : Int)) := ⟨t1, t3⟩
          clear hwi t1 t3
          generalize tuN (wt P) k q i = ti at *
          generalize wt P i = wi at *
          have g1 : decide ((ti : Int) < 0) = false := decide_eq_false (by omega)
          obtain ⟨wo, rfl⟩ : ∃ wo, wo = wr := ⟨_, rfl⟩
          have inner : True := trivial
          by_cases h0 : wi = 0
          case' pos =>
            have ht0 := t5 h0
            have g0 : ((wi : Int) == 0) = true := by rw [beq_iff_eq]; omega
            have g2 : ((ti : Int) != 0) = false := by rw [ht0]; rfl
            clear ht0 h0 t5
            go_wp2_with fail
          case' neg =>
            have g0 : ((wi : Int) == 0) = false := beq_eq_false_iff_ne.2 (by omega)
            clear h0 t5
            go_wp2_with fail
          all_goals
            clear r1 r2 g0 g1
            go_loopw [71] (fun jv wr => ∃ j : Nat, j ≤ k ∧ jv = .int .i64 j ∧ ∃ q, wr = w3.drewN q) (fun jv _ => k - (intOf jv).toNat)
            case atStart => exact ⟨0, Nat.zero_le _, rfl, qi, HWI.out⟩
            case round =>
              obtain ⟨j, hj, rfl, qj, hwj⟩ := hrel
              have HWJ := Lib.hid hwj
              by_cases hjn : j < k
              · obtain ⟨t1, t6, t3, t7, _⟩ := HAT.out j hjn
                have s1 : wr.cell? ⟨b3, o3 + j, none⟩ = some (.int .i64 (tuN (wt P) k q j)) := by rw [hwj, ← t1]; exact C3.out j hjn
                have s2 : wr.cell? ⟨b5, o5 + j, none⟩ = some (.int .i64 (wt P j)) := by rw [hwj, ← t3]; exact C5.out j hjn
                have s3 : wr.cell? ⟨b3, o3 + i, none⟩ = some (.int .i64 ti) := by rw [hwj, ← HEI.out.1]; exact C3.out i hin
                have s4 : wr.cell? ⟨b5, o5 + i, none⟩ = some (.int .i64 wi) := by rw [hwj, ← HEI.out.2]; exact C5.out i hin
                have hmj := HMI.out j hjn
                clear hwj t1 t3
                generalize tuN (wt P) k q j = tj at *
                generalize wt P j = wj at *
                by_cases hww : wj ≤ wi
                · have hmj := hmj hww
                  have q0 : decide (wj ≤ wi) = true := decide_eq_true hww
                  have q1 : decide ((ti : Int) < (tj : Int)) = false := decide_eq_false (by omega)
                  have q1' : decide (ti < tj) = false := decide_eq_false (by omega)
                  clear hmj
                  go_wp2_with fail
                  go_quiet (fail)
                  go_wp2
                  go_roundw
                  case rel => exact ⟨j + 1, by omega, by go_num, qj + nq, by rw [HWJ.out, World.drewN_drewN]⟩
                  case measure => simp [intOf]; omega
                · have q0 : decide (wj ≤ wi) = false := decide_eq_false hww
                  have q0' : decide ((wj : Int) ≤ (wi : Int)) = false := decide_eq_false (by omega)
                  clear hmj
                  go_wp2_with fail
                  go_quiet (fail)
                  go_wp2
                  go_roundw
                  case rel => exact ⟨j + 1, by omega, by go_num, qj + nq, by rw [HWJ.out, World.drewN_drewN]⟩
                  case measure => simp [intOf]; omega
              · obtain rfl : j = k := by omega
                clear hwj
                go_wp2
                go_roundw
                case rel => exact ⟨i + 1, by omega, by go_num, qj, HWJ.out⟩
                case measure => simp [intOf]; omega
        · obtain rfl : i = k := by omega
          have QN2 := Lib.hid (QN.out wr ⟨qi, hwi⟩)
          clear hwi
          go_wp2_with fail
          refine QN2.out.mono ?_
          rintro e w' ⟨rfl, rfl⟩
          go_wp2
          go_ret
          exact ⟨rfl, by rw [HWI.out]; exact below_drewN HB3.out _⟩
end Go.Proofs.Ytdoidajdfnbiiaa

/-
  plumekeep.SeatsDivide returns true, for every two ints and slice of ints, if seats.Share keeps its contract; nothing that was there is written.
-/
import Derived.Test.YtedllchlhdjanaaSeatUse
import Derived.Test.YtedllchlhdjanaaCPeopleOf
import Derived.BigQuiet
import Derived.Deep.QuietTactic
namespace Go.Proofs.Ytedllchlhdjanaa
open Go.RowKit Fm
set_option linter.unusedVariables false

set_option maxHeartbeats 4000000 in
set_option maxRecDepth 100000 in
theorem seatsDivide_is (sS : SShare) (w0 : Int) (hw0 : -9223372036854775808 ≤ w0) (hw1 : w0 ≤ 9223372036854775807) (v1 : Value) (l : List Int) {w : World} (f1 : IsInts w v1 l) (n0 : Int) (hn0 : -9223372036854775808 ≤ n0) (hn1 : n0 ≤ 9223372036854775807) :
    Calls Try.prog 6 #[.int .i64 w0, v1, .int .i64 n0] w fun e w' => e = .returned (.bool true) ∧ Below w.heap.size w w' := by
  obtain ⟨a, c, rfl, hr, hox, hlc, _, hcm, _⟩ := f1
  have HR := Lib.hid hr
  have HO := Lib.hid hox
  have W0 : Hid (∀ W, Calls Try.prog 14 #[] W fun e w' => e = .returned (.bool true) ∧ Below W.heap.size W w') := fun W => shares_any sS W
  have SS : Hid SShare := sS
  clear sS hr hox
  go_enter Try.func6, Try.ntmps6
  go_wp2_with fail
  refine (W0.out w).mono ?_
  rintro e w1 ⟨rfl, hb1⟩
  clear W0
  go_wp2_with fail
  refine (within_any w0 2 w1 hw0 hw1 (by omega) (by omega)).mono ?_
  rintro e w1' ⟨rfl, rfl⟩
  obtain ⟨d, hd⟩ : ∃ d : Int, w0 % 2 = d := ⟨_, rfl⟩
  have hd0 : 0 ≤ d ∧ d ≤ 1 := by omega
  rw [hd]
  clear hd hw0 hw1
  go_wp2_with fail
  refine (within_any n0 101 w1 hn0 hn1 (by omega) (by omega)).mono ?_
  rintro e w1' ⟨rfl, rfl⟩
  obtain ⟨h, hh⟩ : ∃ h : Nat, n0 % 101 = (h : Int) := ⟨(n0 % 101).toNat, by omega⟩
  have hh9 : h ≤ 100 := by omega
  rw [hh]
  clear hh hn0 hn1
  obtain ⟨way, hway⟩ : ∃ way : Nat, 1 + d = (way : Int) := ⟨(1 + d).toNat, by omega⟩
  have hw1 : 1 ≤ way := by omega
  have hw2 : way ≤ 2 := by omega
  go_wp2_with fail
  refine (peopleOf_any a l.length c l w1 (rd_ext HR.out hb1) hlc hcm HO.out).mono ?_
  rintro e w2 ⟨v2, rfl, o2, hb2⟩
  obtain ⟨ap, cp, rfl, hpc, _⟩ := own_slice o2
  have HP := Lib.hid (peopleOf_ppl l)
  have RP := Lib.hid (Rd.of_own o2)
  have hb02 := ext_trans hb1 hb2
  generalize peopleOf l = P at *
  have hp1 := HP.out.pos
  have hp8 := HP.out.le
  clear o2 hb1 hb2 HR HO
  obtain ⟨n, hn⟩ : ∃ n, P.length = n := ⟨_, rfl⟩
  have HN := Lib.hid hn
  rw [hn] at hp1 hp8 hpc RP ⊢
  have QS := Lib.hid (share_use SS.out HP.out HN.out (way := (way : Int)) (by omega) (by omega) hh9 ap cp hpc w2 RP.out)
  have HX : Hid (∀ i, i < n → ∃ x : Nat, P.getD i 0 = x ∧ x = xs P i ∧ x ≤ 1000000) := fun i hi => by
    obtain ⟨q1, q2⟩ := HP.out.at_ (i := i) (by rw [hn]; exact hi)
    exact ⟨xs P i, q1, rfl, q2⟩
  have HAT : Hid (∀ i, i < n → (sharesL (way : Int) P h).getD i 0 = shareN (way : Int) P h i ∧ shareN (way : Int) P h i ≤ 100) := fun i hi => ⟨shares_at _ P h (by rw [hn]; exact hi), Nat.le_trans (share_le HP.out _ h (by rw [hn]; exact hi)) hh9⟩
  have HDIV : Hid (∀ i k, i < n → k < n → 0 < shareN (way : Int) P h i → xs P k * (way * (shareN (way : Int) P h i - 1) + 1) ≤ xs P i * (way * shareN (way : Int) P h k + 1)) := fun i k hi hk h0 => by
    unfold shareN at h0 ⊢
    rw [if_neg (by omega)] at h0
    rw [if_neg (by omega), if_neg (by omega)]
    rw [Int.toNat_natCast] at h0 ⊢
    subst hn
    exact seatT_div HP.out.pos h i k hi hk h0
  clear hn SS
  go_wp2_with fail
  clear hway
  refine QS.out.mono ?_
  rintro e w3 ⟨a3, c3, rfl, r3, hb3⟩
  have r23 := rd_ext RP.out hb3
  have HB3 := Lib.hid (ext_trans hb02 hb3)
  clear QS hb02 hb3
  obtain ⟨b3, o3, rfl, _, hc3⟩ := r3.2 (by omega)
  obtain ⟨b5, o5, rfl, _, hc5⟩ := r23.2 (by omega)
  have C3 := Lib.hid hc3
  have C5 := Lib.hid hc5
  clear hc3 hc5 r3 r23 RP
  have hne3 : ((n : Int) != (n : Int)) = false := by simp
  go_wp2_with fail
  go_loopw [41] (fun iv wr => ∃ i : Nat, i ≤ n ∧ iv = .int .i64 i ∧ ∃ q, wr = w3.drewN q) (fun iv _ => n - (intOf iv).toNat)
  case atStart => exact ⟨0, Nat.zero_le _, rfl, 0, rfl⟩
  case round =>
    obtain ⟨i, hi, rfl, qi, hwi⟩ := hrel
    have HWI := Lib.hid hwi
    by_cases hin : i < n
    · obtain ⟨x, ex, ex2, hx⟩ := HX.out i hin
      have rx : wr.cell? ⟨b5, o5 + i, none⟩ = some (.int .i64 x) := by rw [hwi, ← ex]; exact C5.out i hin
      have HXX := Lib.hid ex2
      clear hwi ex ex2
      obtain ⟨wo, rfl⟩ : ∃ wo, wo = wr := ⟨_, rfl⟩
      go_wp2_with fail
      clear rx
      go_loopw [48] (fun kv wr => ∃ k : Nat, k ≤ n ∧ kv = .int .i64 k ∧ ∃ q, wr = w3.drewN q) (fun kv _ => n - (intOf kv).toNat)
      case atStart => exact ⟨0, Nat.zero_le _, rfl, qi, HWI.out⟩
      case round =>
        obtain ⟨k, hk, rfl, qk, hwk⟩ := hrel
        have HWK := Lib.hid hwk
        clear HWI
        by_cases hkn : k < n
        · obtain ⟨y, ey, ey2, hy⟩ := HX.out k hkn
          obtain ⟨f1, g1⟩ := HAT.out i hin
          obtain ⟨f2, g2⟩ := HAT.out k hkn
          have hdv := HDIV.out i k hin hkn
          rw [← HXX.out, ← ey2] at hdv
          have ry : wr.cell? ⟨b5, o5 + k, none⟩ = some (.int .i64 y) := by rw [hwk, ← ey]; exact C5.out k hkn
          have r1 : wr.cell? ⟨b3, o3 + i, none⟩ = some (.int .i64 (shareN (way : Int) P h i)) := by rw [hwk, ← f1]; exact C3.out i hin
          have r2 : wr.cell? ⟨b3, o3 + k, none⟩ = some (.int .i64 (shareN (way : Int) P h k)) := by rw [hwk, ← f2]; exact C3.out k hkn
          clear hwk ey ey2 f1 f2
          generalize shareN (way : Int) P h i = si at *
          generalize shareN (way : Int) P h k = sk at *
          by_cases h0 : si = 0
          · have q0 : decide ((0 : Int) < (si : Int)) = false := decide_eq_false (by omega)
            have q0' : decide (0 < si) = false := decide_eq_false (by omega)
            clear hdv h0
            go_wp2_with fail
            go_quiet (fail)
            go_wp2
            go_roundw
            case rel => exact ⟨k + 1, by omega, by go_num, qk + nq, by rw [HWK.out, World.drewN_drewN]⟩
            case measure => simp [intOf]; omega
          · have hdv := hdv (by omega)
            have q0 : decide ((0 : Int) < (si : Int)) = true := decide_eq_true (by omega)
            have q0' : decide (0 < si) = true := decide_eq_true (by omega)
            have q0'' : 0 < si := by omega
            obtain ⟨p1, hp1'⟩ : ∃ p1, way * sk = p1 := ⟨_, rfl⟩
            obtain ⟨p3, hp3'⟩ : ∃ p3, way * (si - 1) = p3 := ⟨_, rfl⟩
            have l1 : p1 ≤ 200 := by rw [← hp1']; exact Nat.le_trans (Nat.mul_le_mul hw2 g2) (by omega)
            have l3 : p3 ≤ 200 := by rw [← hp3']; exact Nat.le_trans (Nat.mul_le_mul hw2 (show si - 1 ≤ 100 by omega)) (by omega)
            rw [hp1', hp3'] at hdv
            obtain ⟨p2, hp2'⟩ : ∃ p2, x * (p1 + 1) = p2 := ⟨_, rfl⟩
            obtain ⟨p4, hp4'⟩ : ∃ p4, y * (p3 + 1) = p4 := ⟨_, rfl⟩
            have l2 : p2 ≤ 201000000 := by rw [← hp2']; exact Nat.le_trans (Nat.mul_le_mul hx (show p1 + 1 ≤ 201 by omega)) (by omega)
            have l4 : p4 ≤ 201000000 := by rw [← hp4']; exact Nat.le_trans (Nat.mul_le_mul hy (show p3 + 1 ≤ 201 by omega)) (by omega)
            rw [hp2', hp4'] at hdv
            have m0 : (si : Int) - 1 = ((si - 1 : Nat) : Int) := by omega
            have m1 : (way : Int) * (sk : Int) = (p1 : Int) := by rw [← hp1', Int.natCast_mul]
            have m3 : (way : Int) * ((si : Int) - 1) = (p3 : Int) := by rw [← hp3', Int.natCast_mul, m0]
            have m2 : (x : Int) * ((p1 : Int) + 1) = (p2 : Int) := by rw [← hp2', Int.natCast_mul]; rfl
            have m4 : (y : Int) * ((p3 : Int) + 1) = (p4 : Int) := by rw [← hp4', Int.natCast_mul]; rfl
            have q1 : decide ((p2 : Int) < (p4 : Int)) = false := decide_eq_false (by omega)
            have q1' : decide (p2 < p4) = false := decide_eq_false (by omega)
            clear hdv h0 hp1' hp2' hp3' hp4' m0
            go_wp2_with fail
            go_quiet (fail)
            go_wp2
            go_roundw
            case rel => exact ⟨k + 1, by omega, by go_num, qk + nq, by rw [HWK.out, World.drewN_drewN]⟩
            case measure => simp [intOf]; omega
        · obtain rfl : k = n := by omega
          clear hwk
          go_wp2
          go_roundw
          case rel => exact ⟨i + 1, by omega, by go_num, qk, HWK.out⟩
          case measure => simp [intOf]; omega
    · obtain rfl : i = n := by omega
      clear hwi
      go_wp2
      go_ret
      exact ⟨rfl, by rw [HWI.out]; exact below_drewN HB3.out _⟩
end Go.Proofs.Ytedllchlhdjanaa

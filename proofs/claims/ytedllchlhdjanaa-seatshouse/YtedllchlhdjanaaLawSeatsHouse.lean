/-
  plumekeep.SeatsHouse returns true, for every two ints and slice of ints, if seats.Share keeps its contract; nothing that was there is written.
-/
import Derived.Test.YtedllchlhdjanaaSeatUse
import Derived.Test.YtedllchlhdjanaaCPeopleOf
import Derived.BigQuiet
import Derived.Deep.QuietTactic
namespace Go.Proofs.Ytedllchlhdjanaa
open Go.RowKit Fm
set_option linter.unusedVariables false

theorem house_step {way : Int} (h3 : way ≠ 3) (P : List Int) (h i : Nat) : shareN way P h i ≤ shareN way P (h + 1) i ∧ shareN way P (h + 1) i ≤ shareN way P h i + 1 := by
  unfold shareN; rw [if_neg h3, if_neg h3]; exact seatT_step h i

set_option maxHeartbeats 4000000 in
set_option maxRecDepth 100000 in
theorem seatsHouse_is (sS : SShare) (w0 : Int) (hw0 : -9223372036854775808 ≤ w0) (hw1 : w0 ≤ 9223372036854775807) (v1 : Value) (l : List Int) {w : World} (f1 : IsInts w v1 l) (n0 : Int) (hn0 : -9223372036854775808 ≤ n0) (hn1 : n0 ≤ 9223372036854775807) :
    Calls Try.prog 4 #[.int .i64 w0, v1, .int .i64 n0] w fun e w' => e = .returned (.bool true) ∧ Below w.heap.size w w' := by
  obtain ⟨a, c, rfl, hr, hox, hlc, _, hcm, _⟩ := f1
  have HR := Lib.hid hr
  have HO := Lib.hid hox
  have W0 : Hid (∀ W, Calls Try.prog 14 #[] W fun e w' => e = .returned (.bool true) ∧ Below W.heap.size W w') := fun W => shares_any sS W
  have SS : Hid SShare := sS
  clear sS hr hox
  go_enter Try.func4, Try.ntmps4
  go_wp2_with fail
  refine (W0.out w).mono ?_
  rintro e w1 ⟨rfl, hb1⟩
  clear W0
  go_wp2_with fail
  refine (within_any w0 2 w1 hw0 hw1 (by omega) (by omega)).mono ?_
  rintro e w1' ⟨rfl, rfl⟩
  obtain ⟨d, hd⟩ : ∃ d : Int, w0 % 2 = d := ⟨_, rfl⟩
  have hd0 : 0 ≤ d ∧ d ≤ 1 := by omega
  rw [hd]
  clear hd hw0 hw1
  go_wp2_with fail
  refine (within_any n0 100 w1 hn0 hn1 (by omega) (by omega)).mono ?_
  rintro e w1' ⟨rfl, rfl⟩
  obtain ⟨h, hh⟩ : ∃ h : Nat, n0 % 100 = (h : Int) := ⟨(n0 % 100).toNat, by omega⟩
  have hh9 : h ≤ 99 := by omega
  rw [hh]
  clear hh hn0 hn1
  obtain ⟨way, hway⟩ : ∃ way : Int, 1 + d = way := ⟨_, rfl⟩
  have hw1 : 1 ≤ way := by omega
  have hw2 : way ≤ 2 := by omega
  go_wp2_with fail
  refine (peopleOf_any a l.length c l w1 (rd_ext HR.out hb1) hlc hcm HO.out).mono ?_
  rintro e w2 ⟨v2, rfl, o2, hb2⟩
  obtain ⟨ap, cp, rfl, hpc, _⟩ := own_slice o2
  have HP := Lib.hid (peopleOf_ppl l)
  have RP := Lib.hid (Rd.of_own o2)
  have hb02 := ext_trans hb1 hb2
  generalize peopleOf l = P at *
  have hp1 := HP.out.pos
  have hp8 := HP.out.le
  clear o2 hb1 hb2 HR HO
  obtain ⟨n, hn⟩ : ∃ n, P.length = n := ⟨_, rfl⟩
  have QS : Hid (∀ (k : Nat) W, k ≤ 100 → Below w2.heap.size w2 W → Calls Try.prog 9 #[.int .i64 way, .slice ap n cp, .int .i64 k] W fun e w' => ∃ a c, e = .returned (.tuple #[.slice a n c, .int .i64 0]) ∧ Rd w' w'.heap.size a n (sharesL way P k) ∧ Below W.heap.size W w') := fun k W hk hW => by
    have q := SS.out way ap P.length cp P k W ⟨rd_ext RP.out hW, by omega, hpc⟩ (HP.out.schk hw1 (by omega) (by omega) (by omega))
    rw [hn] at q
    refine q.mono ?_
    rintro e w' ⟨a, c, rfl, _, _, r, hb⟩
    rw [shares_len, hn] at r ⊢
    exact ⟨a, c, rfl, r, hb⟩
  have QN : Hid (∀ (k : Nat) a c W, Rd W W.heap.size a n (sharesL way P k) → k ≤ 100 → Calls Try.prog 18 #[.slice a n c] W fun e w' => e = .returned (.int .i64 k) ∧ W = w') := fun k a c W hr hk => by
    have q := sumK_any a n c (sharesL way P k) W W.heap.size hr (by omega) (fun x hx => by have := mem_shares HP.out hx; omega)
    rw [shares_sum HP.out] at q
    exact q
  have HAT : Hid (∀ k i, i < n → (sharesL way P k).getD i 0 = shareN way P k i) := fun k i hi => shares_at way P k (by rw [hn]; exact hi)
  have HST : Hid (∀ k i, shareN way P k i ≤ shareN way P (k + 1) i ∧ shareN way P (k + 1) i ≤ shareN way P k i + 1) := fun k i => house_step (by omega) P k i
  have HLE : Hid (∀ k i, i < n → shareN way P k i ≤ k) := fun k i hi => share_le HP.out way k (by rw [hn]; exact hi)
  rw [hn] at hp1 hp8 hpc ⊢
  clear hn RP SS
  go_wp2_with fail
  refine (QS.out h w2 (by omega) (Below.refl _ _)).mono ?_
  rintro e w3 ⟨a3, c3, rfl, r3, hb3⟩
  go_wp2_with fail
  refine (QS.out (h + 1) w3 (by omega) hb3).mono ?_
  rintro e w4 ⟨a4, c4, rfl, r4, hb4⟩
  have r34 := rd_ext r3 hb4
  have hb04 := ext_trans hb02 (ext_trans hb3 hb4)
  clear QS r3 hb3 hb4 hb02
  go_wp2_with fail
  refine (good_zero w4.heap.size 0 2 2 _ (by omega) (zeros_at w4 23 2 #[.int .i64 0, .int .i64 0] rfl)).mono ?_
  rintro e w5 ⟨rfl, rfl⟩
  have b5 : Below w4.heap.size w4 (w4.alloc (.cells #[.int .i64 0, .int .i64 0] 23)) := (Below.refl _ _).alloc (Nat.le_refl _) _
  have hb05 := ext_trans hb04 b5
  have R3 := Lib.hid (rd_ext r34 b5)
  have R4 := Lib.hid (rd_ext r4 b5)
  clear b5 hb04 r34 r4
  generalize w4.alloc (.cells #[.int .i64 0, .int .i64 0] 23) = w5 at *
  have hne : ((h : Int) != (h : Int)) = false := by simp
  have hne2 : (((h + 1 : Nat) : Int) != (h : Int) + 1) = false := by simp
  have hne3 : ((n : Int) != (n : Int)) = false := by simp
  go_wp2_with fail
  refine (QN.out h a3 c3 w5 R3.out (by omega)).mono ?_
  rintro e w6 ⟨rfl, rfl⟩
  go_wp2_with fail
  refine (QN.out (h + 1) a4 c4 w5 R4.out (by omega)).mono ?_
  rintro e w6 ⟨rfl, rfl⟩
  clear QN
  have HB5 := Lib.hid hb05
  obtain ⟨b3, o3, rfl, _, hc3⟩ := R3.out.2 (by omega)
  obtain ⟨b4, o4, rfl, _, hc4⟩ := R4.out.2 (by omega)
  have C3 := Lib.hid hc3
  have C4 := Lib.hid hc4
  clear hc3 hc4 R3 R4 hb05
  go_wp2_with fail
  go_loopw [71] (fun iv wr => ∃ i : Nat, i ≤ n ∧ iv = .int .i64 i ∧ ∃ q, wr = w5.drewN q) (fun iv _ => n - (intOf iv).toNat)
  case atStart => exact ⟨0, Nat.zero_le _, rfl, 0, rfl⟩
  case round =>
    obtain ⟨i, hi, rfl, q, hwr⟩ := hrel
    have HWR := Lib.hid hwr
    by_cases hin : i < n
    · have r1 : wr.cell? ⟨b3, o3 + i, none⟩ = some (.int .i64 ((sharesL way P h).getD i 0)) := by rw [hwr]; exact C3.out i hin
      have r2 : wr.cell? ⟨b4, o4 + i, none⟩ = some (.int .i64 ((sharesL way P (h + 1)).getD i 0)) := by rw [hwr]; exact C4.out i hin
      rw [HAT.out h i hin] at r1
      rw [HAT.out (h + 1) i hin] at r2
      obtain ⟨s1, s2⟩ := HST.out h i
      have hle := HLE.out h i hin
      clear hwr
      generalize shareN way P h i = s at *
      generalize shareN way P (h + 1) i = s' at *
      have g1 : decide ((s : Int) < 0) = false := decide_eq_false (by omega)
      have g2 : decide ((s' : Int) < (s : Int)) = false := decide_eq_false (by omega)
      have g2' : decide (s' < s) = false := decide_eq_false (by omega)
      have g3 : decide ((s : Int) + 1 < (s' : Int)) = false := decide_eq_false (by omega)
      go_wp2_with fail
      go_quiet (fail)
      go_wp2
      go_roundw
      case rel => exact ⟨i + 1, by omega, by go_num, q + nq, by rw [HWR.out, World.drewN_drewN]⟩
      case measure => simp [intOf]; omega
    · obtain rfl : i = n := by omega
      clear hwr
      go_wp2
      go_ret
      exact ⟨rfl, by rw [HWR.out]; exact below_drewN HB5.out _⟩
end Go.Proofs.Ytedllchlhdjanaa

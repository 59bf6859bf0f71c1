/-
  plumekeep.SeatsQuota returns true, for every slice of ints and int, if seats.Share keeps its contract; nothing that was there is written.
-/
import Derived.Test.YtedllchlhdjanaaSeatUse
import Derived.Test.YtedllchlhdjanaaCPeopleOf
import Derived.BigQuiet
import Derived.Deep.QuietTactic
namespace Go.Proofs.Ytedllchlhdjanaa
open Go.RowKit Fm
set_option linter.unusedVariables false

set_option maxHeartbeats 4000000 in
set_option maxRecDepth 100000 in
theorem seatsQuota_is (sS : SShare) (v1 : Value) (l : List Int) {w : World} (f1 : IsInts w v1 l) (n0 : Int) (hn0 : -9223372036854775808 ≤ n0) (hn1 : n0 ≤ 9223372036854775807) :
    Calls Try.prog 5 #[v1, .int .i64 n0] w fun e w' => e = .returned (.bool true) ∧ Below w.heap.size w w' := by
  obtain ⟨a, c, rfl, hr, hox, hlc, _, hcm, _⟩ := f1
  have HR := Lib.hid hr
  have HO := Lib.hid hox
  have W0 : Hid (∀ W, Calls Try.prog 14 #[] W fun e w' => e = .returned (.bool true) ∧ Below W.heap.size W w') := fun W => shares_any sS W
  have SS : Hid SShare := sS
  clear sS hr hox
  go_enter Try.func5, Try.ntmps5
  go_wp2_with fail
  refine (W0.out w).mono ?_
  rintro e w1 ⟨rfl, hb1⟩
  clear W0
  go_wp2_with fail
  refine (within_any n0 101 w1 hn0 hn1 (by omega) (by omega)).mono ?_
  rintro e w1' ⟨rfl, rfl⟩
  obtain ⟨h, hh⟩ : ∃ h : Nat, n0 % 101 = (h : Int) := ⟨(n0 % 101).toNat, by omega⟩
  have hh9 : h ≤ 100 := by omega
  rw [hh]
  clear hh hn0 hn1
  go_wp2_with fail
  refine (peopleOf_any a l.length c l w1 (rd_ext HR.out hb1) hlc hcm HO.out).mono ?_
  rintro e w2 ⟨v2, rfl, o2, hb2⟩
  obtain ⟨ap, cp, rfl, hpc, _⟩ := own_slice o2
  have HP := Lib.hid (peopleOf_ppl l)
  have RP := Lib.hid (Rd.of_own o2)
  have hb02 := ext_trans hb1 hb2
  generalize peopleOf l = P at *
  have hp1 := HP.out.pos
  have hp8 := HP.out.le
  clear o2 hb1 hb2 HR HO
  obtain ⟨n, hn⟩ : ∃ n, P.length = n := ⟨_, rfl⟩
  have HN := Lib.hid hn
  rw [hn] at hp1 hp8 hpc RP ⊢
  have QS : Hid (∀ (way : Int) W, 1 ≤ way → way ≤ 3 → Below w2.heap.size w2 W → Calls Try.prog 9 #[.int .i64 way, .slice ap n cp, .int .i64 h] W (ShOut n (sharesL way P h) W)) := fun way W q1 q3 hW => share_use SS.out HP.out HN.out q1 q3 hh9 ap cp hpc W (rd_ext RP.out hW)
  have QN : Hid (∀ way a c W, Rd W W.heap.size a n (sharesL way P h) → Calls Try.prog 18 #[.slice a n c] W fun e w' => e = .returned (.int .i64 h) ∧ W = w') := fun way a c W hr => sum_use HP.out HN.out hh9 a c W hr
  have QP : Hid (∀ W, Below w2.heap.size w2 W → Calls Try.prog 18 #[.slice ap n cp] W fun e w' => e = .returned (.int .i64 (sN (xs P) n)) ∧ W = w') := fun W hW => pplsum_use HP.out HN.out ap cp W (rd_ext RP.out hW)
  have HFACT : Hid (∀ i, i < n → ∃ x f r s t : Nat, P.getD i 0 = x ∧ (sharesL 3 P h).getD i 0 = s ∧ (sharesL 1 P h).getD i 0 = t ∧ x * h / sN (xs P) n = f ∧ x * h % sN (xs P) n = r ∧ x ≤ 1000000 ∧ s ≤ 100 ∧ t ≤ 100 ∧ f ≤ s ∧ s ≤ f + 1 ∧ (s = f + 1 → 0 < r) ∧ f ≤ t) := fun i hi => by
    subst hn
    obtain ⟨q1, q2⟩ := HP.out.at_ hi
    obtain ⟨a1, a2, a3⟩ := partS_quota (t := h) HP.out.pos HP.out.some_ hi
    have a4 := seatT_quota HP.out.pos h HP.out.some_ i hi
    have l1 := share_le HP.out 3 h hi
    have l2 := share_le HP.out 1 h hi
    exact ⟨xs P i, fl (xs P) P.length h i, rm (xs P) P.length h i, shareN 3 P h i, shareN 1 P h i, q1, shares_at _ _ _ hi, shares_at _ _ _ hi, rfl, rfl, q2, by omega, by omega, a1, a2, a3, a4⟩
  have hsp : 0 < sN (xs P) n := by have := HP.out.some_; rwa [hn] at this
  have hsl : sN (xs P) n ≤ 8000000 := by
    have h1 : sN (xs P) n ≤ sN (fun _ => 1000000) n := sN_le (fun i hi => (HP.out.at_ (by rw [hn]; exact hi)).2)
    have e1 : ∀ c m, sN (fun _ => c) m = c * m := fun c m => by
      induction m with
      | zero => rfl
      | succ m ih => rw [sN, ih, Nat.mul_succ]
    rw [e1] at h1
    omega
  clear hn SS
  generalize sN (xs P) n = A at *
  go_wp2_with fail
  refine (QS.out 3 w2 (by omega) (by omega) (Below.refl _ _)).mono ?_
  rintro e w3 ⟨a3, c3, rfl, r3, hb3⟩
  go_wp2_with fail
  refine (QS.out 1 w3 (by omega) (by omega) hb3).mono ?_
  rintro e w4 ⟨a4, c4, rfl, r4, hb4⟩
  have r34 := rd_ext r3 hb4
  have hb24 := ext_trans hb3 hb4
  clear QS r3 hb3 hb4
  go_wp2_with fail
  refine (good_zero w4.heap.size 0 2 2 _ (by omega) (zeros_at w4 23 2 #[.int .i64 0, .int .i64 0] rfl)).mono ?_
  rintro e w5 ⟨rfl, rfl⟩
  have b5 : Below w4.heap.size w4 (w4.alloc (.cells #[.int .i64 0, .int .i64 0] 23)) := (Below.refl _ _).alloc (Nat.le_refl _) _
  have hb25 := ext_trans hb24 b5
  have R3 := Lib.hid (rd_ext r34 b5)
  have R4 := Lib.hid (rd_ext r4 b5)
  have R5 := Lib.hid (rd_ext RP.out hb25)
  have HB5 := Lib.hid (ext_trans hb02 hb25)
  clear b5 hb24 r34 r4 RP hb02
  generalize w4.alloc (.cells #[.int .i64 0, .int .i64 0] 23) = w5 at *
  have hne : ((h : Int) != (h : Int)) = false := by simp
  have hne3 : ((n : Int) != (n : Int)) = false := by simp
  go_wp2_with fail
  refine (QN.out 3 a3 c3 w5 R3.out).mono ?_
  rintro e w6 ⟨rfl, rfl⟩
  go_wp2_with fail
  refine (QN.out 1 a4 c4 w5 R4.out).mono ?_
  rintro e w6 ⟨rfl, rfl⟩
  go_wp2_with fail
  refine (QP.out w5 hb25).mono ?_
  rintro e w6 ⟨rfl, rfl⟩
  clear QN QP hb25
  obtain ⟨b3, o3, rfl, _, hc3⟩ := R3.out.2 (by omega)
  obtain ⟨b4, o4, rfl, _, hc4⟩ := R4.out.2 (by omega)
  obtain ⟨b5, o5, rfl, _, hc5⟩ := R5.out.2 (by omega)
  have C3 := Lib.hid hc3
  have C4 := Lib.hid hc4
  have C5 := Lib.hid hc5
  clear hc3 hc4 hc5 R3 R4 R5
  go_wp2_with fail
  go_loopw [67] (fun iv wr => ∃ i : Nat, i ≤ n ∧ iv = .int .i64 i ∧ ∃ q, wr = w5.drewN q) (fun iv _ => n - (intOf iv).toNat)
  case atStart => exact ⟨0, Nat.zero_le _, rfl, 0, rfl⟩
  case round =>
    obtain ⟨i, hi, rfl, q, hwr⟩ := hrel
    have HWR := Lib.hid hwr
    by_cases hin : i < n
    · obtain ⟨x, f, r, s, t, e1, e2, e3, e4, e5, hx, hs, ht, k1, k2, k3, k4⟩ := HFACT.out i hin
      have r5 : wr.cell? ⟨b5, o5 + i, none⟩ = some (.int .i64 x) := by rw [hwr, ← e1]; exact C5.out i hin
      have r3 : wr.cell? ⟨b3, o3 + i, none⟩ = some (.int .i64 s) := by rw [hwr, ← e2]; exact C3.out i hin
      have r4 : wr.cell? ⟨b4, o4 + i, none⟩ = some (.int .i64 t) := by rw [hwr, ← e3]; exact C4.out i hin
      have hxh : x * h ≤ 100000000 := Nat.le_trans (Nat.mul_le_mul hx hh9) (by omega)
      obtain ⟨X, hX⟩ : ∃ X : Nat, x * h = X := ⟨_, rfl⟩
      have m1 : (x : Int) * (h : Int) = (X : Int) := by rw [← hX]; exact (Int.natCast_mul x h).symm
      rw [hX] at e4 e5 hxh
      have d1 : (X : Int).tdiv (A : Int) = (f : Int) := by rw [← e4]; rfl
      have d2 : (X : Int) / (A : Int) = (f : Int) := by rw [← e4]; rfl
      have d3 : (X : Int).tmod (A : Int) = (r : Int) := by rw [← e5]; rfl
      have d4 : (X : Int) % (A : Int) = (r : Int) := by rw [← e5]; rfl
      have hA0 : ((A : Int) == 0) = false := beq_eq_false_iff_ne.2 (by omega)
      have hA1 : ¬ (A : Int) = 0 := by omega
      clear hwr e1 e2 e3 e4 e5 hX
      have hz : wr = wr := rfl
      have g1 : decide ((s : Int) < (f : Int)) = false := decide_eq_false (by omega)
      have g1' : decide (s < f) = false := decide_eq_false (by omega)
      have g2 : decide ((f : Int) + 1 < (s : Int)) = false := decide_eq_false (by omega)
      have g5 : decide ((t : Int) < (f : Int)) = false := decide_eq_false (by omega)
      have g5' : decide (t < f) = false := decide_eq_false (by omega)
      have hf : f ≤ 100 := by omega
      clear hz
      by_cases hs1 : s = f + 1
      · have hr0 : 0 < r := k3 hs1
        have g3 : ((s : Int) == (f : Int) + 1) = true := by rw [beq_iff_eq]; omega
        have g4 : ((r : Int) == 0) = false := beq_eq_false_iff_ne.2 (by omega)
        clear k1 k2 k3 k4 hs1 hr0
        go_wp2
        go_roundw
        case rel => exact ⟨i + 1, by omega, by go_num, q, HWR.out⟩
        case measure => simp [intOf]; omega
      · have g3 : ((s : Int) == (f : Int) + 1) = false := beq_eq_false_iff_ne.2 (by omega)
        clear k1 k2 k3 k4 hs1
        go_wp2
        go_roundw
        case rel => exact ⟨i + 1, by omega, by go_num, q, HWR.out⟩
        case measure => simp [intOf]; omega
    · obtain rfl : i = n := by omega
      clear hwr
      go_wp2
      go_ret
      exact ⟨rfl, by rw [HWR.out]; exact below_drewN HB5.out _⟩
end Go.Proofs.Ytedllchlhdjanaa

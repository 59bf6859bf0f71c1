/-
  plumekeep.RulesMost returns true, for all ints and every slice of slices of ints, if package rules and tally.Firsts keep their contracts; nothing that was there is written.
-/
import Derived.Test.YtbpenheomiejfaaLawRulesMay
import Derived.Test.YtbpenheomiejfaaMostMath
namespace Go.Proofs.Ytbpenheomiejfaa
open Go.RowKit Fm
set_option linter.unusedVariables false

theorem most_win {n : Nat} {V : List (List Int)} (hV : ∀ p ∈ V, p.Perm (sides n)) (hn : 1 ≤ n) {rule : Int} (hr : rule = 1 ∨ rule = 3 ∨ rule = 4 ∨ rule = 5) {x : Nat} (hx : x < n) (hm : V.length < 2 * fst1 V x) : winL rule n V = [(x : Int)] := by
  rcases hr with rfl | rfl | rfl | rfl
  · exact most_first hV hx hm
  · exact beats_wins (most_beats hV hx hm)
  · exact beats_worst (most_beats hV hx hm)
  · exact most_rounds hV hn hx hm
theorem four_tab {k : Nat} (hk : k < 4) : ([1, 3, 4, 5] : List Int).getD k 0 = 1 ∨ ([1, 3, 4, 5] : List Int).getD k 0 = 3 ∨ ([1, 3, 4, 5] : List Int).getD k 0 = 4 ∨ ([1, 3, 4, 5] : List Int).getD k 0 = 5 := by
  match k, hk with
  | 0, _ => exact .inl rfl
  | 1, _ => exact .inr (.inl rfl)
  | 2, _ => exact .inr (.inr (.inl rfl))
  | 3, _ => exact .inr (.inr (.inr rfl))

set_option maxHeartbeats 4000000 in
set_option maxRecDepth 100000 in
theorem rulesMost_is (dW : RWin) (sS : RSole) (tF : TFirsts) (r0 : Int) (hr0 : -9223372036854775808 ≤ r0) (hr1 : r0 ≤ 9223372036854775807) (n0 : Int) (hn0 : -9223372036854775808 ≤ n0) (hn1 : n0 ≤ 9223372036854775807) (v : Value) (L : List (List Int)) {w : World} (f : IsRows w v L) :
    Calls Try.prog 8 #[.int .i64 r0, .int .i64 n0, v] w fun e w' => e = .returned (.bool true) ∧ Below w.heap.size w w' := by
  obtain ⟨a, c, rfl, hr, hall, hlc, _, hcm, h24⟩ := f
  have HR := Lib.hid hr
  have HO : Hid (∀ l ∈ L, ∀ x ∈ l, Ok64 x) := fun l hl => (hall l hl).1
  have W0 : Hid (∀ W, Calls Try.prog 16 #[] W fun e w' => e = .returned (.bool true) ∧ Below W.heap.size W w') := fun W => winners0_any dW sS W
  have DW : Hid RWin := dW
  have TF : Hid TFirsts := tF
  clear hr hall dW sS tF h24
  go_enter Try.func8, Try.ntmps8
  go_wp2_with fail
  refine (W0.out w).mono ?_
  rintro e w1 ⟨rfl, hb1⟩
  clear W0
  obtain ⟨k4, hk4⟩ : ∃ k4 : Nat, r0 % 4 = k4 := ⟨(r0 % 4).toNat, by omega⟩
  have hk4b : k4 < 4 := by omega
  have hk4i : (k4 : Int) < 4 := by omega
  have hcell := (Rd.lit w1 3 [1, 3, 4, 5] #[.int .i64 1, .int .i64 3, .int .i64 4, .int .i64 5] rfl).at_ (k := k4) hk4b
  obtain ⟨bt, ot, het, _, ct⟩ := hcell
  injection het with het; injection het with het1 het2; subst het1; subst het2
  rw [Nat.zero_add] at ct
  have HT4 := Lib.hid (four_tab hk4b)
  have hba : Below w1.heap.size w1 (w1.alloc (.cells #[.int .i64 1, .int .i64 3, .int .i64 4, .int .i64 5] 3)) := (Below.refl _ _).alloc (by omega) _
  have hb1a := ext_trans hb1 hba
  have WQ : Hid (∀ W, Calls Try.prog 17 #[.int .i64 r0, .int .i64 4] W fun e w' => e = .returned (.int .i64 k4) ∧ W = w') := fun W => by
    have h := within_any r0 4 W hr0 hr1 (by omega) (by omega)
    rw [hk4] at h
    exact h
  clear hk4 hr0 hr1 hba hb1
  generalize ([1, 3, 4, 5] : List Int).getD k4 0 = rule at *
  go_wp2_with fail
  refine (WQ.out _).mono ?_
  rintro e w1' ⟨rfl, rfl⟩
  clear WQ
  go_wp2_with fail
  clear ct
  generalize w1.alloc (.cells #[.int .i64 1, .int .i64 3, .int .i64 4, .int .i64 5] 3) = w2 at *
  refine (within_any n0 6 w2 hn0 hn1 (by omega) (by omega)).mono ?_
  rintro e w2' ⟨rfl, rfl⟩
  obtain ⟨n, hn⟩ : ∃ n : Nat, 1 + n0 % 6 = n := ⟨(1 + n0 % 6).toNat, by omega⟩
  have h1 : 1 ≤ n := by omega
  have h6 : n ≤ 6 := by omega
  have e6 : n0 % 6 = (n : Int) - 1 := by omega
  rw [e6]
  clear hn e6 hn0 hn1
  go_wp2_with fail
  rw [show 1 + ((n : Int) - 1) = n by omega]
  refine (votesOf_any n a L.length c L w2 (rdr_ext HR.out hb1a) hlc hcm h1 h6 HO.out).mono ?_
  rintro e w3 h
  obtain ⟨va, vc, rfl, _, _, hrV, hb3⟩ := h.use
  clear h
  have hb03 := ext_trans hb1a hb3
  have HV30 := votesOf_len n L
  have HP := Lib.hid (fun p (hp : p ∈ votesOf n L) => votesOf_mem hp)
  have HOK := Lib.hid (votesOf_v0 h1 h6 L)
  have RV := Lib.hid hrV
  generalize votesOf n L = V at *
  have hV30 : V.length ≤ 30 := by omega
  have hrb : 1 ≤ rule ∧ rule ≤ 5 := by have := HT4.out; omega
  have HRC : Hid (rchk rule n V = 0) := rchk_of hrb.1 hrb.2 HOK.out
  have HMW : Hid (∀ x : Nat, x < n → V.length < 2 * fst1 V x → winL rule n V = [(x : Int)]) := fun x hx hm => most_win HP.out h1 HT4.out hx hm
  have hwp := winL_pos rule h1 V
  have hwl := winL_le rule h1 V
  have hfl : (firstsL n V).length = n := by simp [firstsL, sides_len]
  have HFL := Lib.hid hfl
  clear HV30 hrV hb3 HR HO hlc hcm hfl hb1a
  go_wp2_with fail
  refine (TF.out n va V.length vc V w3 w3.heap.size (Nat.le_refl _) RV.out (by omega) HOK.out).mono ?_
  rintro e w4 ⟨a4, c4, rfl, _, _, r4, hb4⟩
  rw [HFL.out] at r4 ⊢
  have hb04 := ext_trans hb03 hb4
  obtain ⟨b4, o4, rfl, hbb4, hc4⟩ := r4.2 (by omega)
  have HC4 : Hid (∀ x, x < n → w4.cell? ⟨b4, o4 + x, none⟩ = some (.int .i64 (fst1 V x))) := fun x hx => by
    rw [hc4 x hx]; unfold firstsL; rw [map_sides_getD n _ hx]
  have TI := Lib.hid (tabIn_smallW (rdr_ext RV.out hb4) (by omega) (perm_len HP.out h6))
  have QW := Lib.hid (DW.out rule n va V.length vc V w4 TI.out HRC.out)
  clear r4 hc4 hb4 hb03 RV TI
  generalize winL rule n V = WL at *
  go_wp2_with fail
  refine QW.out.mono ?_
  rintro e w5 ⟨a5, c5, rfl, _, _, r5, hb5⟩
  clear QW
  have hb05 := ext_trans hb04 hb5
  have HC5 : Hid (∀ x, x < n → w5.cell? ⟨b4, o4 + x, none⟩ = some (.int .i64 (fst1 V x))) := fun x hx => (hb5.cell hbb4).trans (HC4.out x hx)
  have hbb5 : b4 < w5.heap.size := Nat.lt_of_lt_of_le hbb4 hb5.size
  have R5 := Lib.hid r5
  clear r5 hb5 hb04 HC4 hbb4
  go_wp2_with fail
  refine (good_zero w5.heap.size 0 2 2 _ (by omega) (zeros_at w5 24 2 #[.int .i64 0, .int .i64 0] rfl)).mono ?_
  rintro e w' ⟨rfl, rfl⟩
  have b6 : Below w5.heap.size w5 (w5.alloc (.cells #[.int .i64 0, .int .i64 0] 24)) := (Below.refl _ _).alloc (by omega) _
  have R6 := Lib.hid (rd_ext R5.out b6)
  have hb06 := ext_trans hb05 b6
  have HC6 : Hid (∀ x, x < n → (w5.alloc (.cells #[.int .i64 0, .int .i64 0] 24)).cell? ⟨b4, o4 + x, none⟩ = some (.int .i64 (fst1 V x))) := fun x hx => (b6.cell hbb5).trans (HC5.out x hx)
  clear b6 R5 hb05 HC5 hbb5
  generalize w5.alloc (.cells #[.int .i64 0, .int .i64 0] 24) = w6 at *
  go_wp2_with fail
  go_loopw [53] (fun i wr => ∃ x : Nat, x ≤ n ∧ i = .int .i64 x ∧ w6 = wr) (fun i _ => n - (intOf i).toNat)
  case atStart => exact ⟨0, Nat.zero_le _, rfl, rfl⟩
  case round =>
    obtain ⟨x, hx, rfl, rfl⟩ := hrel
    by_cases hxn : x < n
    · have cx := HC6.out x hxn
      have hfb := fst1_le V x
      by_cases hm : V.length < 2 * fst1 V x
      · have HW := Lib.hid (HMW.out x hxn hm)
        have hmi : ((V.length : Nat) : Int) < 2 * ((fst1 V x : Nat) : Int) := by omega
        clear hm
        generalize fst1 V x = fx at *
        go_wp2_with fail
        have bW : Below w6.heap.size w6 (w6.alloc (.cells #[.int .i64 x] 3)) := (Below.refl _ _).alloc (Nat.le_refl _) _
        have q := equal_ext WL [(x : Int)] a5 (some ⟨w6.heap.size, 0, none⟩) WL.length c5 1 1 _ (rd_ext R6.out bW) ((Rd.lit w6 3 [(x : Int)] #[.int .i64 x] rfl).more (by simp)) (by omega) (by omega)
        rw [decide_eq_true HW.out] at q
        refine q.mono ?_
        rintro e w7 ⟨rfl, hb7⟩
        have hbe := ext_trans (ext_trans hb06 bW) hb7
        clear q bW hb7 cx
        go_wp2
        go_ret
        exact ⟨rfl, hbe⟩
      · have hmi : ¬ ((V.length : Nat) : Int) < 2 * ((fst1 V x : Nat) : Int) := by omega
        clear hm
        generalize fst1 V x = fx at *
        go_wp2
        go_roundw
        case rel => exact ⟨x + 1, by omega, by go_num, by first | rfl | trivial⟩
        case measure => simp [intOf]; omega
    · obtain rfl : x = n := by omega
      have hwi : (0 : Int) < ((WL.length : Nat) : Int) := by omega
      go_wp2
      go_ret
      exact ⟨rfl, hb06⟩
end Go.Proofs.Ytbpenheomiejfaa

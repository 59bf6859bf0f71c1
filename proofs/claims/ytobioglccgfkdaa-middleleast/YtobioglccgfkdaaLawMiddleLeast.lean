/-
  plumekeep.MiddleLeast returns true, for every int, every slice of slices of ints and every slice of ints, if package middle and tally.Duels keep their contracts; nothing that was there is written.
-/
import Derived.Test.YtobioglccgfkdaaCMiddles
import Derived.Test.YtobioglccgfkdaaCVotesOf
import Derived.Test.YtobioglccgfkdaaCWithin
import Derived.Test.YtobioglccgfkdaaCCheck
import Derived.Test.YtobioglccgfkdaaCGood
import Derived.Test.YtobioglccgfkdaaPureA
import Derived.BigQuiet
import Derived.Deep.QuietTactic
namespace Go.Proofs.Ytobioglccgfkdaa
open Go.RowKit Fm
set_option linter.unusedVariables false

theorem perm_lenL {n : Nat} {V : List (List Int)} (hp : ∀ p ∈ V, p.Perm (sides n)) (h6 : n ≤ 6) : ∀ p ∈ V, p.length ≤ 1000 := fun p hpm => by
  have := (hp p hpm).length_eq
  rw [sides_len] at this
  omega
theorem farC_ok {n : Nat} (h1 : 1 ≤ n) (h6 : n ≤ 6) {V : List (List Int)} (hv : vchk n V = 0) {p : List Int} (hp : p.Perm (sides n)) : fchk n V p = 0 ∧ farA n V p = farT V p := by
  have e : fchk n V p = 0 := by unfold fchk; rw [if_neg (by simpa using hv), if_neg (by simpa using chk_perm hp h1 h6)]
  exact ⟨e, by unfold farA; rw [if_pos e]⟩

set_option maxHeartbeats 4000000 in
set_option maxRecDepth 100000 in
theorem middleLeast_is (mF : MFar) (mB : MBest) (tD : TDuelsM) (n0 : Int) (hn0 : -9223372036854775808 ≤ n0) (hn1 : n0 ≤ 9223372036854775807) (v : Value) (L : List (List Int)) {w : World} (f : IsRows w v L) (vx : Value) (X : List Int) (fx : IsInts w vx X) :
    Calls Try.prog 4 #[.int .i64 n0, v, vx] w fun e w' => e = .returned (.bool true) ∧ Below w.heap.size w w' := by
  obtain ⟨a, c, rfl, hr, hall, hlc, _, hcm, h24⟩ := f
  obtain ⟨ax, cx, rfl, hrx, hox, hlx, _, hcx, h8x⟩ := fx
  have HR := Lib.hid hr
  have HO : Hid (∀ l ∈ L, ∀ x ∈ l, Ok64 x) := fun l hl => (hall l hl).1
  have HRX := Lib.hid hrx
  have HOX := Lib.hid hox
  have W0 : Hid (∀ W, Calls Try.prog 14 #[] W fun e w' => e = .returned (.bool true) ∧ Below W.heap.size W w') := fun W => middles_any mB W
  have MB : Hid MBest := mB
  have MF : Hid MFar := mF
  have TD : Hid TDuelsM := tD
  clear hr hall mB mF tD h24 hrx hox
  go_enter Try.func4, Try.ntmps4
  go_wp2_with fail
  refine (W0.out w).mono ?_
  rintro e w1 ⟨rfl, hb1⟩
  clear W0
  go_wp2_with fail
  refine (within_any n0 6 w1 hn0 hn1 (by omega) (by omega)).mono ?_
  rintro e w1' ⟨rfl, rfl⟩
  obtain ⟨n, hn⟩ : ∃ n : Nat, 1 + n0 % 6 = n := ⟨(1 + n0 % 6).toNat, by omega⟩
  have h1 : 1 ≤ n := by omega
  have h6 : n ≤ 6 := by omega
  have e6 : n0 % 6 = (n : Int) - 1 := by omega
  rw [e6]
  have en : 1 + ((n : Int) - 1) = n := by omega
  clear hn e6 hn0 hn1
  go_wp2_with fail
  refine (votesOf_any n a L.length c L w1 (rdr_ext HR.out hb1) hlc hcm h1 h6 HO.out).mono ?_
  rintro e w2 h
  obtain ⟨va, vc, rfl, _, _, hrV, hb2⟩ := h.use
  clear h
  have hb02 := ext_trans hb1 hb2
  have HV30 := votesOf_len n L
  have HP := Lib.hid (fun p (hp : p ∈ votesOf n L) => votesOf_mem hp)
  have HOK := Lib.hid (votesOf_v0 h1 h6 L)
  have RV := Lib.hid hrV
  generalize votesOf n L = V at *
  have hV30 : V.length ≤ 30 := by omega
  clear HV30 hrV hb1 hb2 HR HO hlc hcm
  go_wp2_with fail
  refine (orderOf_any n ax X.length cx X w2 w2.heap.size (Nat.le_refl _) (rd_ext HRX.out hb02) h1 h6 HOX.out).mono ?_
  rintro e w3 ⟨v3, rfl, o3, hb3⟩
  obtain ⟨p1, cp, rfl, hcp, _⟩ := own_slice o3
  have HNP := Lib.hid (ordOf_perm n X)
  have RN := Lib.hid (Rd.of_own o3)
  generalize ordOf n X = N at *
  have hb03 := ext_trans hb02 hb3
  have RV3 := Lib.hid (rdr_ext RV.out hb3)
  clear o3 HRX HOX hlx hcx h8x RV hb3 hb02
  have TI : Hid (∀ W, Below w3.heap.size w3 W → TabIn W va V.length V) := fun W hW => tabIn_smallM (rdr_ext RV3.out hW) (by omega) (perm_lenL HP.out h6)
  have QB := Lib.hid (MB.out n va V.length vc V w3 (TI.out w3 (Below.refl _ w3)) HOK.out)
  have QD : Hid (∀ W, Below w3.heap.size w3 W → Calls Try.prog 18 #[.int .i64 n, .slice va V.length vc] W (MatOut (duelsM n V) W)) := fun W hW => TD.out n va V.length vc V W W.heap.size (Nat.le_refl _) (rdr_ext RV3.out hW) (by omega) HOK.out
  obtain ⟨hbp, hbe, hbm⟩ := best_all h1 h6 V
  have hbl : (bestL n V).length = n := by have := hbp.length_eq; rwa [sides_len] at this
  have HBL := Lib.hid hbl
  have HBP := Lib.hid hbp
  have HLB := least_bd h1 h6 hV30
  have hge : leastN n V ≤ (farT V N : Int) := by
    have := hbm N HNP.out
    rw [hbe]; omega
  have hfn := farT_le h6 V (p := N) (by have := HNP.out.length_eq; rwa [sides_len] at this)
  have QFB : Hid (∀ W t d, Below w3.heap.size w3 W → Rd W W.heap.size t n (bestL n V) → n ≤ d → Calls Try.prog 7 #[.int .i64 n, .slice va V.length vc, .slice t n d] W fun e w' => e = .returned (.tuple #[.int .i64 (leastN n V), .int .i64 0]) ∧ Below W.heap.size W w') := fun W t d hW hrd hnd => by
    have q := MF.out n va V.length vc V t n d (bestL n V) W (TI.out W hW) hrd (by omega) hnd
    rw [(farC_ok h1 h6 HOK.out hbp).1, (farC_ok h1 h6 HOK.out hbp).2, ← hbe] at q
    exact q
  have QFN : Hid (∀ W t d, Below w3.heap.size w3 W → Rd W W.heap.size t n N → n ≤ d → Calls Try.prog 7 #[.int .i64 n, .slice va V.length vc, .slice t n d] W fun e w' => e = .returned (.tuple #[.int .i64 (farT V N : Nat), .int .i64 0]) ∧ Below W.heap.size W w') := fun W t d hW hrd hnd => by
    have q := MF.out n va V.length vc V t n d N W (TI.out W hW) hrd (by omega) hnd
    rw [(farC_ok h1 h6 HOK.out HNP.out).1, (farC_ok h1 h6 HOK.out HNP.out).2] at q
    exact q
  have HCK := Lib.hid (chk_perm hbp h1 h6)
  have HML := Lib.hid (duelsM_len n V)
  have HMR : Hid (∀ l ∈ duelsM n V, l.length = n) := fun l hl => duelsM_rows hl
  have HST : Hid (∀ j x y : Nat, j + 1 < n → (bestL n V).getD j 0 = x → (bestL n V).getD (j + 1) 0 = y → ¬ ent (duelsM n V) x y < ent (duelsM n V) y x) := fun j x y hj hx hy => by
    have hxn : x < n := by have := mem_sides.1 (hbp.mem_iff.1 (hx ▸ getD_mem (bestL n V) j (by omega))); omega
    have hyn : y < n := by have := mem_sides.1 (hbp.mem_iff.1 (hy ▸ getD_mem (bestL n V) (j + 1) (by omega))); omega
    have := best_step h1 h6 HP.out hj hx hy
    rw [ent_duels n V hxn hyn, ent_duels n V hyn hxn]
    omega
  clear MB MF TD TI HP HOK HNP hbp hbe hbm hbl
  generalize duelsM n V = M at *
  generalize bestL n V = bl at *
  generalize leastN n V = ln at *
  generalize farT V N = fN at *
  have hlnn : ¬ (fN : Int) < ln := by omega
  go_wp2_with fail
  refine QB.out.mono ?_
  rintro e w4 ⟨a4, c4, rfl, hc4, _, r4, hb4⟩
  rw [HBL.out] at r4 hc4 ⊢
  have HC4 := Lib.hid hc4
  clear hc4
  clear QB
  go_wp2_with fail
  refine (QFB.out w4 a4 c4 hb4 r4 HC4.out).mono ?_
  rintro e w5 ⟨rfl, hb5⟩
  have hb35 := ext_trans hb4 hb5
  have r45 := rd_ext r4 hb5
  clear QFB hb4 hb5 r4
  go_wp2_with fail
  refine (QFN.out w5 p1 cp hb35 (rd_ext RN.out hb35) hcp).mono ?_
  rintro e w6 ⟨rfl, hb6⟩
  have hb36 := ext_trans hb35 hb6
  have r46 := rd_ext r45 hb6
  clear QFN hb35 hb6 r45 RN
  go_wp2_with fail
  refine (QD.out w6 hb36).mono ?_
  rintro e w7 ⟨a7, c7, rfl, _, _, r7, hb7⟩
  rw [HML.out] at r7 ⊢
  have hb37 := ext_trans hb36 hb7
  have r47 := rd_ext r46 hb7
  have hb07 := ext_trans hb03 hb37
  clear QD hb36 hb7 r46 hb37 hb03 RV3
  go_wp2_with fail
  refine (good_zero w7.heap.size 0 4 4 _ (by omega) (zeros_at w7 24 4 #[.int .i64 0, .int .i64 0, .int .i64 0, .int .i64 0] rfl)).mono ?_
  rintro e w' ⟨rfl, rfl⟩
  have b8 : Below w7.heap.size w7 (w7.alloc (.cells #[.int .i64 0, .int .i64 0, .int .i64 0, .int .i64 0] 24)) := (Below.refl _ _).alloc (by omega) _
  have hb08 := ext_trans hb07 b8
  have RB8 := Lib.hid (rd_ext r47 b8)
  have RM8 := Lib.hid (rdr_ext r7 b8)
  clear r47 r7 b8 hb07
  generalize w7.alloc (.cells #[.int .i64 0, .int .i64 0, .int .i64 0, .int .i64 0] 24) = w8 at *
  have QC := Lib.hid (check_any n a4 n c4 bl w8 w8.heap.size (Nat.le_refl _) RB8.out)
  rw [HCK.out] at QC
  have hlnb : (ln != ln) = false := by simp
  go_wp2_with fail
  refine QC.out.mono ?_
  rintro e w9 ⟨rfl, hb9⟩
  have hb09 := ext_trans hb08 hb9
  have RB9 := Lib.hid (rd_ext RB8.out hb9)
  obtain ⟨bm, om, rfl, hbm, hsq⟩ := rdr_square (rdr_ext RM8.out hb9) (by omega) HMR.out
  obtain ⟨bp, op, rfl, hbp, hcp4⟩ := RB9.out.2 (by omega)
  have HSQ := Lib.hid hsq
  have HCP := Lib.hid hcp4
  clear QC RB8 RM8 hb08 hb9 hsq hcp4 HMR
  go_wp2_with fail
  go_loopw [18] (fun iv wr => ∃ i d : Nat, 1 ≤ i ∧ i ≤ n ∧ iv = .int .i64 i ∧ wr = w9.drewN d) (fun iv _ => n - (intOf iv).toNat)
  case atStart => exact ⟨1, 0, Nat.le_refl _, h1, rfl, rfl⟩
  case round =>
    obtain ⟨i, d, hi1, hin, rfl, rfl⟩ := hrel
    by_cases hjn : i < n
    · obtain ⟨j, hj⟩ : ∃ j, i = j + 1 := ⟨i - 1, by omega⟩
      have hjn0 : j < n := by omega
      have c1 := HCP.out i hjn
      have c0 := HCP.out j hjn0
      have hy := mem_sides.1 (HBP.out.mem_iff.1 (getD_mem bl i (by rw [HBL.out]; exact hjn)))
      have hx := mem_sides.1 (HBP.out.mem_iff.1 (getD_mem bl j (by rw [HBL.out]; omega)))
      obtain ⟨y, hye⟩ : ∃ y : Nat, bl.getD i 0 = y := ⟨(bl.getD i 0).toNat, by omega⟩
      obtain ⟨x, hxe⟩ : ∃ x : Nat, bl.getD j 0 = x := ⟨(bl.getD j 0).toNat, by omega⟩
      have hst0 := HST.out j x y (by omega) hxe (by rw [← hj]; exact hye)
      have hst : ¬ ent M x y < ent M y x := by omega
      have hstb : decide (ent M x y < ent M y x) = false := decide_eq_false hst
      rw [hye] at c1 hy
      rw [hxe] at c0 hx
      have hyn : (y : Int) < (n : Int) := hy.2
      have hxn : (x : Int) < (n : Int) := hx.2
      obtain ⟨by_, oy, cy, m1, _, _, _, m2⟩ := HSQ.out y (by omega)
      obtain ⟨bx, ox, cx', m3, _, _, _, m4⟩ := HSQ.out x (by omega)
      have m5 := m4 y (by omega)
      have m6 := m2 x (by omega)
      have hji : (i : Int) < (n : Int) := by omega
      have hji0 : (j : Int) < (n : Int) := by omega
      have hsub : (i : Int) - 1 = (j : Int) := by omega
      have hnn : ((n : Int) != (n : Int)) = false := by simp
      clear m2 m4 hye hxe hy hx hj hst0
      generalize ent M x y = exy at *
      generalize ent M y x = eyx at *
      go_wp2_with fail
      go_quiet (fail)
      go_wp2
      go_roundw
      case rel => exact ⟨i + 1, _, by omega, by omega, by go_num, rfl⟩
      case measure => simp [intOf]; omega
    · obtain rfl : i = n := by omega
      have hbf := below_drewN hb09 d
      go_wp2
      go_ret
      exact ⟨rfl, hbf⟩
end Go.Proofs.Ytobioglccgfkdaa

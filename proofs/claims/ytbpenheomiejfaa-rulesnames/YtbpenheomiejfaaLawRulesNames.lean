/-
  plumekeep.RulesNames returns true, for all ints, every slice of slices of ints and every slice of ints, if package rules keeps its contract; nothing that was there is written.
-/
import Derived.Test.YtbpenheomiejfaaLawRulesRaise
import Derived.Test.YtbpenheomiejfaaAppR
import Derived.Test.YtbpenheomiejfaaRenMath
import Derived.Test.YtbpenheomiejfaaCGood
import Derived.Test.YtbpenheomiejfaaCEqual
namespace Go.Proofs.Ytbpenheomiejfaa
open Go.RowKit Fm
set_option linter.unusedVariables false

theorem rdr_cut {w : World} {B n : Nat} {a : Option Addr} {L : List (List Int)} (h : RdR w B a n L) {k : Nat} (hk : k ≤ n) : RdR w B a k (L.take k) := by
  refine ⟨by rw [List.length_take, h.1]; omega, fun hk0 => ?_⟩
  obtain ⟨b, o, e, hb, hc⟩ := h.2 (by omega)
  refine ⟨b, o, e, hb, fun j hj => ?_⟩
  have e1 : (L.take k).getD j [] = L.getD j [] := by simp [List.getD_eq_getElem?_getD, hj]
  rw [e1]
  exact hc j (by omega)

set_option maxHeartbeats 4000000 in
set_option maxRecDepth 100000 in
theorem rulesNames_is (dO : RWinO) (sS : RSole) (r0 : Int) (hr0 : -9223372036854775808 ≤ r0) (hr1 : r0 ≤ 9223372036854775807) (n0 : Int) (hn0 : -9223372036854775808 ≤ n0) (hn1 : n0 ≤ 9223372036854775807) (v : Value) (L : List (List Int)) {w : World} (f : IsRows w v L) (vx : Value) (X : List Int) (fx : IsInts w vx X) :
    Calls Try.prog 7 #[.int .i64 r0, .int .i64 n0, v, vx] w fun e w' => e = .returned (.bool true) ∧ Below w.heap.size w w' := by
  have dW : RWin := fun rule n a m c V w ti hk => (dO rule n a m c V w ti hk).mono fun _ _ h => h.ints
  obtain ⟨a, c, rfl, hr, hall, hlc, _, hcm, h24⟩ := f
  obtain ⟨ax, cx, rfl, hrx, hox, hlx, _, hcx, h8x⟩ := fx
  have HR := Lib.hid hr
  have HO : Hid (∀ l ∈ L, ∀ x ∈ l, Ok64 x) := fun l hl => (hall l hl).1
  have HRX := Lib.hid hrx
  have HOX := Lib.hid hox
  have W0 : Hid (∀ W, Calls Try.prog 16 #[] W fun e w' => e = .returned (.bool true) ∧ Below W.heap.size W w') := fun W => winners0_any dW sS W
  have DW : Hid RWin := dW
  clear hr hall dW dO sS h24 hrx hox
  go_enter Try.func7, Try.ntmps7
  go_wp2_with fail
  refine (W0.out w).mono ?_
  rintro e w1 ⟨rfl, hb1⟩
  clear W0
  go_wp2_with fail
  refine (within_any r0 5 w1 hr0 hr1 (by omega) (by omega)).mono ?_
  rintro e w1' ⟨rfl, rfl⟩
  obtain ⟨rule, hrule⟩ : ∃ rule : Int, 1 + r0 % 5 = rule := ⟨_, rfl⟩
  have h1 : 1 ≤ rule := by omega
  have h5 : rule ≤ 5 := by omega
  have e5 : r0 % 5 = rule - 1 := by omega
  rw [e5]
  have er : 1 + (rule - 1) = rule := by omega
  clear hrule e5 hr0 hr1
  go_wp2_with fail
  refine (within_any n0 6 w1 hn0 hn1 (by omega) (by omega)).mono ?_
  rintro e w1' ⟨rfl, rfl⟩
  obtain ⟨n, hn⟩ : ∃ n : Nat, 1 + n0 % 6 = n := ⟨(1 + n0 % 6).toNat, by omega⟩
  have hn1' : 1 ≤ n := by omega
  have h6 : n ≤ 6 := by omega
  have e6 : n0 % 6 = (n : Int) - 1 := by omega
  rw [e6]
  have en : 1 + ((n : Int) - 1) = n := by omega
  clear hn e6 hn0 hn1
  go_wp2_with fail
  refine (votesOf_any n a L.length c L w1 (rdr_ext HR.out hb1) hlc hcm hn1' h6 HO.out).mono ?_
  rintro e w2 ⟨v2, vs, rfl, ov, el, hb2⟩
  have hb02 := ext_trans hb1 hb2
  have HV30 := votesOf_len n L
  have HP0 := Lib.hid (fun p (hp : p ∈ votesOf n L) => votesOf_mem hp)
  generalize votesOf n L = V at *
  have hV30 : V.length ≤ 30 := by omega
  obtain ⟨va, vc, rfl, hvc, hvm, hvz, _⟩ := own_sliceV ov
  have RV := Lib.hid (RdR.of_own ov rfl el)
  have HVZ := Lib.hid hvz
  clear ov el HV30 hb1 hb2 HR HO hlc hcm hvz
  go_wp2_with fail
  refine (orderOf_any n ax X.length cx X w2 w2.heap.size (Nat.le_refl _) (rd_ext HRX.out hb02) hn1' h6 HOX.out).mono ?_
  rintro e w3 ⟨v3, rfl, o3, hb3⟩
  obtain ⟨p1, cp, rfl, hcp, _⟩ := own_slice o3
  have HNP := Lib.hid (ordOf_perm n X)
  have RN := Lib.hid (Rd.of_own o3)
  generalize ordOf n X = N at *
  have hb03 := ext_trans hb02 hb3
  obtain ⟨H, hH⟩ : ∃ H : Nat, H = min V.length 15 := ⟨_, rfl⟩
  have hH15 : H ≤ 15 := by omega
  have hHV : H ≤ V.length := by omega
  have hmin : min (V.length : Int) 15 = (H : Int) := by omega
  have hHc : (H : Int) ≤ (vc : Int) := by omega
  have hH0 : (0 : Int) ≤ (H : Int) := by omega
  have RU := Lib.hid (rdr_cut (rdr_ext RV.out hb3) hHV)
  have hUl : (V.take H).length = H := by rw [List.length_take]; omega
  have HP : Hid (∀ p ∈ V.take H, p.Perm (sides n)) := fun p hp => HP0.out p (List.mem_of_mem_take hp)
  have HUL := Lib.hid hUl
  clear o3 HRX HOX hlx hcx h8x RV HP0 hb3 hb02 hH hUl
  generalize V.take H = U at *
  have HOK := Lib.hid (perm_vchk hn1' h6 (by rw [HUL.out]; omega) HP.out)
  have HQ : Hid (∀ W t d, RdR W W.heap.size t H U → Calls Try.prog 11 #[.int .i64 rule, .int .i64 n, .slice t H d] W (IntsOut (winL rule n U) W)) := fun W t d hW =>
    DW.out rule n t H d U W (tabIn_smallW hW (by omega) (perm_len HP.out h6)) (rchk_of h1 h5 HOK.out)
  have HMP := Lib.hid (ren_mem HNP.out HP.out)
  have HML : Hid ((U.map (renL N)).length = H) := by show _ = _; rw [List.length_map, HUL.out]
  have HQM : Hid (∀ W t d, RdR W W.heap.size t H (U.map (renL N)) → Calls Try.prog 11 #[.int .i64 rule, .int .i64 n, .slice t H d] W (IntsOut (winL rule n (U.map (renL N))) W)) := fun W t d hW =>
    DW.out rule n t H d _ W (tabIn_smallW hW (by omega) (perm_len HMP.out h6)) (rchk_of h1 h5 (perm_vchk hn1' h6 (by rw [HML.out]; omega) HMP.out))
  have HQT : Hid (∀ W t d, RdR W W.heap.size t (H + H) (U ++ U) → Calls Try.prog 11 #[.int .i64 rule, .int .i64 n, .slice t (H + H) d] W (IntsOut (winL rule n U) W)) := fun W t d hW => by
    have hpt : ∀ p ∈ U ++ U, p.Perm (sides n) := fun p hp => by
      rcases List.mem_append.1 hp with h | h
      · exact HP.out p h
      · exact HP.out p h
    have q := DW.out rule n t (H + H) d _ W (tabIn_smallW hW (by omega) (perm_len hpt h6)) (rchk_of h1 h5 (perm_vchk hn1' h6 (by rw [List.length_append, HUL.out]; omega) hpt))
    rw [win_twice h1 h5] at q
    exact q
  have HPL : Hid (∀ p ∈ U, 1 ≤ p.length ∧ p.length ≤ 1000 ∧ ∀ x ∈ p, 0 ≤ x ∧ x < n) := fun p hp => by
    have h := (HP.out p hp).length_eq
    rw [sides_len] at h
    exact ⟨by omega, by omega, fun x hx => mem_sides.1 ((HP.out p hp).mem_iff.1 hx)⟩
  have hap := winL_pos rule hn1' U
  have hal := winL_le rule hn1' U
  have hbl := winL_le rule hn1' (U.map (renL N))
  have HW4 : Hid (rule ≤ 4 → (∀ y ∈ winL rule n U, 0 ≤ y ∧ y < n ∧ N.getD y.toNat 0 ∈ winL rule n (U.map (renL N))) ∧ (winL rule n U).length = (winL rule n (U.map (renL N))).length) := fun h => wins_ren HNP.out HP.out h1 h
  have HW5 : Hid (rule = 5 → (winL rule n U).length = 1 ∧ (winL rule n (U.map (renL N))).length = 1) := fun h => by subst h; exact ⟨rfl, rfl⟩
  have HNL : Hid (N.length = n) := by have := HNP.out.length_eq; rwa [sides_len] at this
  clear HOK DW HP HNP HMP
  generalize winL rule n U = A at *
  generalize winL rule n (U.map (renL N)) = Bw at *
  go_wp2_with fail
  clear hmin
  refine (HQ.out w3 va vc RU.out).mono ?_
  rintro e w4 ⟨a4, c4, rfl, _, _, r4, hb4⟩
  have hb04 := ext_trans hb03 hb4
  have RU4 := Lib.hid (rdr_ext RU.out hb4)
  have RN4 := Lib.hid (rd_ext RN.out hb4)
  clear RU RN HQ hb03 hb4
  have hUH := HUL.out
  have HREN := Lib.hid (renamed_any va p1 vc n cp U N w4 w4.heap.size (Nat.le_refl _) (by rw [hUH]; exact RU4.out) RN4.out (by omega) (by omega) HPL.out)
  rw [hUH] at HREN
  clear hUH HPL
  go_wp2_with fail
  refine HREN.out.mono ?_
  rintro e w5 ⟨v5, vs5, rfl, o5, e5, hb5⟩
  have r5 := fun (t d) (he : v5 = .slice t H d) => RdR.of_own (a := t) (c := d) (n := H) (by rw [← he, ← HML.out]; exact o5) HML.out e5
  rw [HML.out] at o5
  obtain ⟨t5, d5, rfl, _, _, _, _⟩ := own_sliceV o5
  have R5 := Lib.hid (r5 t5 d5 rfl)
  have hb05 := ext_trans hb04 hb5
  have RU5 := Lib.hid (rdr_ext RU4.out hb5)
  have RN5 := Lib.hid (rd_ext RN4.out hb5)
  have RA5 := Lib.hid (rd_ext r4 hb5)
  clear HREN r5 o5 e5 RU4 RN4 r4 hb04 hb5
  go_wp2_with fail
  refine (HQM.out w5 t5 d5 R5.out).mono ?_
  rintro e w6 ⟨a6, c6, rfl, _, _, r6, hb6⟩
  have hb06 := ext_trans hb05 hb6
  have RU6 := Lib.hid (rdr_ext RU5.out hb6)
  have RN6 := Lib.hid (rd_ext RN5.out hb6)
  have RA6 := Lib.hid (rd_ext RA5.out hb6)
  have RB6 := Lib.hid r6
  clear HQM R5 RU5 RN5 RA5 r6 hb05 hb6
  have HCL := Lib.hid (cloneR_any va H vc U w6 RU6.out HVZ.out (by omega))
  go_wp2_with fail
  refine HCL.out.mono ?_
  rintro e w7 ⟨v7, vs7, rfl, o7, vl7, hb7⟩
  have RU7 := Lib.hid (RU6.out.below hb7 (Nat.le_refl _))
  have hz7 := hb7.size
  clear HCL
  go_wp2_with (at_builtin; go_must (refine wpAppR w7 w6.heap.size _ H vs7 (by exact o7) va H vc U w6.heap.size HVZ.out RU7.out hz7 (by omega) (by omega) rfl _ _ rfl rfl rfl ?_))
  intro us v8 w8 hus o8 hg8 _
  have vl8 := (vl7.grown hg8 hz7 (own_not o7)).append (hus.grown hg8 hz7 (own_not o7))
  have hb68 : Below w6.heap.size w6 w8 := hb7.grown hg8 hz7 (own_not o7)
  obtain ⟨a8, c8, rfl, _, _, _, _⟩ := own_sliceV o8
  have R8 := Lib.hid (Vals.rdr o8 (by rw [List.length_append, HUL.out]) (vl8.more hb68.size))
  have hb08 := ext_trans hb06 hb68
  have RN8 := Lib.hid (rd_ext RN6.out hb68)
  have RA8 := Lib.hid (rd_ext RA6.out hb68)
  have RB8 := Lib.hid (rd_ext RB6.out hb68)
  clear RU6 RU7 RN6 RA6 RB6 o7 vl7 hb7 hz7 hus o8 hg8 vl8 hb68 hb06
  go_wp2_with fail
  refine (HQT.out w8 a8 c8 R8.out).mono ?_
  rintro e w9 ⟨a9, c9, rfl, _, _, r9, hb9⟩
  have hb09 := ext_trans hb08 hb9
  have RN9 := Lib.hid (rd_ext RN8.out hb9)
  have RA9 := Lib.hid (rd_ext RA8.out hb9)
  have RB9 := Lib.hid (rd_ext RB8.out hb9)
  have RC9 := Lib.hid r9
  clear HQT R8 RN8 RA8 RB8 r9 hb08 hb9
  go_wp2_with fail
  refine (good_zero w9.heap.size 0 3 3 _ (by omega) (zeros_at w9 24 3 #[.int .i64 0, .int .i64 0, .int .i64 0] rfl)).mono ?_
  rintro e w' ⟨rfl, rfl⟩
  have b10 : Below w9.heap.size w9 (w9.alloc (.cells #[.int .i64 0, .int .i64 0, .int .i64 0] 24)) := (Below.refl _ _).alloc (by omega) _
  have hb010 := ext_trans hb09 b10
  have RN10 := Lib.hid (rd_ext RN9.out b10)
  have RA10 := Lib.hid (rd_ext RA9.out b10)
  have RB10 := Lib.hid (rd_ext RB9.out b10)
  have RC10 := Lib.hid (rd_ext RC9.out b10)
  clear RN9 RA9 RB9 RC9 hb09 b10
  generalize w9.alloc (.cells #[.int .i64 0, .int .i64 0, .int .i64 0] 24) = w10 at *
  have HEQ := Lib.hid (equal_ext A A a4 a9 A.length c4 A.length c9 w10 RA10.out RC10.out (by omega) (by omega))
  rw [show decide (A = A) = true by simp] at HEQ
  go_wp2_with fail
  refine HEQ.out.mono ?_
  rintro e w11 ⟨rfl, hb11⟩
  have hb011 := ext_trans hb010 hb11
  have RN11 := Lib.hid (rd_ext RN10.out hb11)
  have RA11 := Lib.hid (rd_ext RA10.out hb11)
  have RB11 := Lib.hid (rd_ext RB10.out hb11)
  clear HEQ RN10 RA10 RB10 RC10 hb010 hb11
  have hab : ((A.length : Int) == 0) = false := beq_eq_false_iff_ne.2 (by omega)
  have hai : ¬ ((A.length : Int) = 0) := by omega
  by_cases er5 : rule = 5
  · have hrb : (rule == 5) = true := beq_iff_eq.2 er5
    obtain ⟨hA1, hB1⟩ := HW5.out er5
    have hA1b : ((A.length : Int) == 1) = true := beq_iff_eq.2 (by omega)
    have hB1b : ((Bw.length : Int) == 1) = true := beq_iff_eq.2 (by omega)
    clear er5 hA1 hB1 hap hal hbl
    go_wp2
    go_ret
    exact ⟨rfl, hb011⟩
  · have hrb : (rule == 5) = false := beq_eq_false_iff_ne.2 er5
    obtain ⟨hW, hAB⟩ := HW4.out (by omega)
    have HW := Lib.hid hW
    have HAB : Hid (((A.length : Int) == (Bw.length : Int)) = true) := beq_iff_eq.2 (by omega)
    clear hW hAB HW4 HW5 er5
    obtain ⟨b4, o4, rfl, hb4, hc4⟩ := RA11.out.2 hap
    obtain ⟨bN, oN, rfl, hbN, hcN⟩ := RN11.out.2 (by omega)
    have HC4 := Lib.hid hc4
    have HCN := Lib.hid hcN
    clear hc4 hcN
    go_wp2_with fail
    go_loopw [93] (fun iv wr => ∃ k : Nat, k ≤ A.length ∧ iv = .int .i64 k ∧ w11 = wr) (fun iv _ => A.length - (intOf iv).toNat)
    case atStart => exact ⟨0, Nat.zero_le _, rfl, rfl⟩
    case round =>
      obtain ⟨k, hk, rfl, rfl⟩ := hrel
      by_cases hkA : k < A.length
      · have ck := HC4.out k hkA
        have hy := HW.out _ (getD_mem A k hkA)
        obtain ⟨y, hye⟩ : ∃ y : Nat, A.getD k 0 = y := ⟨(A.getD k 0).toNat, by omega⟩
        rw [hye] at ck hy
        obtain ⟨hy0, hyn, hym⟩ := hy
        rw [Int.toNat_natCast] at hym
        have cN := HCN.out y (by omega)
        have QC := Lib.hid (contains_q Bw (N.getD y 0) a6 Bw.length c6 w11 w11.heap.size RB11.out (by omega) true (by simpa using hym))
        have hyq : ¬ (n : Int) ≤ (y : Int) := by omega
        clear hye hym
        generalize N.getD y 0 = z at *
        go_wp2_with fail
        refine QC.out.mono ?_
        rintro e w12 ⟨rfl, rfl⟩
        clear QC
        go_wp2
        go_roundw
        case rel => exact ⟨k + 1, by omega, by go_num, trivial⟩
        case measure => simp [intOf]; omega
      · obtain rfl : k = A.length := by omega
        have hABb := HAB.out
        go_wp2
        go_ret
        exact ⟨rfl, hb011⟩
end Go.Proofs.Ytbpenheomiejfaa

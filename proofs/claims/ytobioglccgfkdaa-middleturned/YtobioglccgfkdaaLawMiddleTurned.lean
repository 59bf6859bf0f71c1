/-
  plumekeep.MiddleTurned returns true, for every int, every slice of slices of ints and every slice of ints, if package middle keeps its contract; nothing that was there is written.
-/
import Derived.Test.YtobioglccgfkdaaCMiddles
import Derived.Test.YtobioglccgfkdaaBestRen
import Derived.Test.YtobioglccgfkdaaAppR
import Derived.Test.YtobioglccgfkdaaCVotesOf
import Derived.Test.YtobioglccgfkdaaCWithin
import Derived.Test.YtobioglccgfkdaaCGood
namespace Go.Proofs.Ytobioglccgfkdaa
open Go.RowKit Fm
set_option linter.unusedVariables false

theorem perm_lenT {n : Nat} {V : List (List Int)} (hp : ∀ p ∈ V, p.Perm (sides n)) (h6 : n ≤ 6) : ∀ p ∈ V, p.length ≤ 1000 := fun p hpm => by
  have := (hp p hpm).length_eq
  rw [sides_len] at this
  omega

set_option maxHeartbeats 4000000 in
set_option maxRecDepth 100000 in
theorem middleTurned_is (mB : MBest) (n0 : Int) (hn0 : -9223372036854775808 ≤ n0) (hn1 : n0 ≤ 9223372036854775807) (v : Value) (L : List (List Int)) {w : World} (f : IsRows w v L) (vx : Value) (X : List Int) (fx : IsInts w vx X) :
    Calls Try.prog 6 #[.int .i64 n0, v, vx] w fun e w' => e = .returned (.bool true) ∧ Below w.heap.size w w' := by
  obtain ⟨a, c, rfl, hr, hall, hlc, _, hcm, h24⟩ := f
  obtain ⟨ax, cx, rfl, hrx, hox, hlx, _, hcx, h8x⟩ := fx
  have HR := Lib.hid hr
  have HO : Hid (∀ l ∈ L, ∀ x ∈ l, Ok64 x) := fun l hl => (hall l hl).1
  have HRX := Lib.hid hrx
  have HOX := Lib.hid hox
  have W0 : Hid (∀ W, Calls Try.prog 14 #[] W fun e w' => e = .returned (.bool true) ∧ Below W.heap.size W w') := fun W => middles_any mB W
  have MB : Hid MBest := mB
  clear hr hall mB h24 hrx hox
  go_enter Try.func6, Try.ntmps6
  go_wp2_with fail
  refine (W0.out w).mono ?_
  rintro e w1 ⟨rfl, hb1⟩
  clear W0
  go_wp2_with fail
  refine (within_any n0 6 w1 hn0 hn1 (by omega) (by omega)).mono ?_
  rintro e w1' ⟨rfl, rfl⟩
  obtain ⟨n, hn⟩ : ∃ n : Nat, 1 + n0 % 6 = n := ⟨(1 + n0 % 6).toNat, by omega⟩
  have h1 : 1 ≤ n := by omega
  have h6 : n ≤ 6 := by omega
  have e6 : n0 % 6 = (n : Int) - 1 := by omega
  rw [e6]
  have en : 1 + ((n : Int) - 1) = n := by omega
  clear hn e6 hn0 hn1
  go_wp2_with fail
  refine (votesOf_any n a L.length c L w1 (rdr_ext HR.out hb1) hlc hcm h1 h6 HO.out).mono ?_
  rintro e w2 ⟨v2, vs, rfl, ov, el, hb2⟩
  have hb02 := ext_trans hb1 hb2
  have HV30 := votesOf_len n L
  have HP0 := Lib.hid (fun p (hp : p ∈ votesOf n L) => votesOf_mem hp)
  generalize votesOf n L = V at *
  have hV30 : V.length ≤ 30 := by omega
  obtain ⟨va, vc, rfl, hvc, hvm, hvz, _⟩ := own_sliceV ov
  have RV := Lib.hid (RdR.of_own ov rfl el)
  have HVZ := Lib.hid hvz
  clear ov el HV30 hb1 hb2 HR HO hlc hcm hvz
  obtain ⟨H, hH⟩ : ∃ H : Nat, H = min V.length 15 := ⟨_, rfl⟩
  have hH15 : H ≤ 15 := by omega
  have hHV : H ≤ V.length := by omega
  have hmin : min (V.length : Int) 15 = (H : Int) := by omega
  have hHc : (H : Int) ≤ (vc : Int) := by omega
  have hH0 : (0 : Int) ≤ (H : Int) := by omega
  have RU := Lib.hid (rdr_cut RV.out hHV)
  have hUl : (V.take H).length = H := by rw [List.length_take]; omega
  have HP : Hid (∀ p ∈ V.take H, p.Perm (sides n)) := fun p hp => HP0.out p (List.mem_of_mem_take hp)
  have HUL := Lib.hid hUl
  clear RV HP0 hH hUl
  generalize V.take H = U at *
  have HNP := Lib.hid (ordOf_perm n X)
  have hlb := least_bd h1 h6 (V := U) (by rw [HUL.out]; omega)
  have HQ : Hid (∀ W t d, RdR W W.heap.size t H U → Calls Try.prog 8 #[.int .i64 n, .slice t H d] W (IntsOut3 (bestL n U) (leastN n U) W)) := fun W t d hW =>
    MB.out n t H d U W (tabIn_smallM hW (by omega) (perm_lenT HP.out h6)) (perm_vchk h1 h6 (by rw [HUL.out]; omega) HP.out)
  have HTL : Hid ((U.map List.reverse).length = H) := by show _ = _; rw [List.length_map, HUL.out]
  have HQR : Hid (∀ W t d, RdR W W.heap.size t H (U.map List.reverse) → Calls Try.prog 8 #[.int .i64 n, .slice t H d] W (IntsOut3 (bestL n (U.map List.reverse)) (leastN n U) W)) := fun W t d hW => by
    have q := MB.out n t H d _ W (tabIn_smallM hW (by omega) (perm_lenT (turned_mem HP.out) h6)) (perm_vchk h1 h6 (by rw [HTL.out]; omega) (turned_mem HP.out))
    rw [least_turned h1 h6 HP.out] at q
    exact q
  have HML : Hid ((U.map (renL (ordOf n X))).length = H) := by show _ = _; rw [List.length_map, HUL.out]
  have HQM : Hid (∀ W t d, RdR W W.heap.size t H (U.map (renL (ordOf n X))) → Calls Try.prog 8 #[.int .i64 n, .slice t H d] W (IntsOut3 (bestL n (U.map (renL (ordOf n X)))) (leastN n U) W)) := fun W t d hW => by
    have q := MB.out n t H d _ W (tabIn_smallM hW (by omega) (perm_lenT (ren_mem HNP.out HP.out) h6)) (perm_vchk h1 h6 (by rw [HML.out]; omega) (ren_mem HNP.out HP.out))
    rw [least_ren h1 h6 HNP.out HP.out] at q
    exact q
  have HQT : Hid (∀ W t d, RdR W W.heap.size t (H + H) (U ++ U) → Calls Try.prog 8 #[.int .i64 n, .slice t (H + H) d] W (IntsOut3 (bestL n U) (2 * leastN n U) W)) := fun W t d hW => by
    have hpt : ∀ p ∈ U ++ U, p.Perm (sides n) := fun p hp => by
      rcases List.mem_append.1 hp with h | h
      · exact HP.out p h
      · exact HP.out p h
    have q := MB.out n t (H + H) d _ W (tabIn_smallM hW (by omega) (perm_lenT hpt h6)) (perm_vchk h1 h6 (by rw [List.length_append, HUL.out]; omega) hpt)
    have e1 : bestL n (U ++ U) = bestL n U := by unfold bestL; rw [near_twice]
    have e2 : leastN n (U ++ U) = 2 * leastN n U := by unfold leastN; rw [near_twice]
    rw [e1, e2] at q
    exact q
  have HPL : Hid (∀ p ∈ U, 1 ≤ p.length ∧ p.length ≤ 1000 ∧ ∀ x ∈ p, 0 ≤ x ∧ x < n) := fun p hp => by
    have h := (HP.out p hp).length_eq
    rw [sides_len] at h
    exact ⟨by omega, by omega, fun x hx => mem_sides.1 ((HP.out p hp).mem_iff.1 hx)⟩
  have HPL2 : Hid (∀ p ∈ U, 1 ≤ p.length ∧ p.length ≤ 1000) := fun p hp => ⟨(HPL.out p hp).1, (HPL.out p hp).2.1⟩
  obtain ⟨hbp, _, _⟩ := best_all h1 h6 U
  have hbl : (bestL n U).length = n := by have := hbp.length_eq; rwa [sides_len] at this
  have HBL := Lib.hid hbl
  have hL1 : (bestL n (U.map List.reverse)).length ≤ 6 := by have := (best_all h1 h6 (U.map List.reverse)).1.length_eq; rw [sides_len] at this; omega
  clear MB HP HNP hbp hbl
  generalize bestL n U = bl at *
  generalize leastN n U = ln at *
  generalize bestL n (U.map List.reverse) = b2 at *
  go_wp2_with fail
  clear hmin
  refine (HQ.out w2 va vc RU.out).mono ?_
  rintro e w3 ⟨a3, c3, rfl, _, _, r3, hb3⟩
  rw [HBL.out] at r3 ⊢
  have hb03 := ext_trans hb02 hb3
  have RU3 := Lib.hid (rdr_ext RU.out hb3)
  clear HQ RU hb02 hb3
  have hUH := HUL.out
  have HTU := Lib.hid (turned_any va vc U w3 w3.heap.size (Nat.le_refl _) (by rw [hUH]; exact RU3.out) (by omega) HPL2.out)
  rw [hUH] at HTU
  clear hUH HPL2
  go_wp2_with fail
  refine HTU.out.mono ?_
  rintro e w4 ⟨v4, vs4, rfl, o4, e4, hb4⟩
  have r4 := fun (t d) (he : v4 = .slice t H d) => RdR.of_own (a := t) (c := d) (n := H) (by rw [← he, ← HTL.out]; exact o4) HTL.out e4
  rw [HTL.out] at o4
  obtain ⟨t4, d4, rfl, _, _, _, _⟩ := own_sliceV o4
  have R4 := Lib.hid (r4 t4 d4 rfl)
  have hb04 := ext_trans hb03 hb4
  have RU4 := Lib.hid (rdr_ext RU3.out hb4)
  have RA4 := Lib.hid (rd_ext r3 hb4)
  clear HTU r4 o4 e4 RU3 r3 hb03 hb4
  go_wp2_with fail
  refine (HQR.out w4 t4 d4 R4.out).mono ?_
  rintro e w5 ⟨a5, c5, rfl, _, _, _, hb5⟩
  have hb05 := ext_trans hb04 hb5
  have RU5 := Lib.hid (rdr_ext RU4.out hb5)
  have RA5 := Lib.hid (rd_ext RA4.out hb5)
  clear HQR R4 RU4 RA4 hb04 hb5
  go_wp2_with fail
  refine (orderOf_any n ax X.length cx X w5 w5.heap.size (Nat.le_refl _) (rd_ext HRX.out hb05) h1 h6 HOX.out).mono ?_
  rintro e w6 ⟨v6, rfl, o6, hb6⟩
  obtain ⟨p1, cp, rfl, hcp, _⟩ := own_slice o6
  have RN := Lib.hid (Rd.of_own o6)
  generalize ordOf n X = N at *
  have hb06 := ext_trans hb05 hb6
  have RU6 := Lib.hid (rdr_ext RU5.out hb6)
  have RA6 := Lib.hid (rd_ext RA5.out hb6)
  clear o6 HRX HOX hlx hcx h8x RU5 RA5 hb05 hb6
  have hUH := HUL.out
  have HREN := Lib.hid (renamed_any va p1 vc n cp U N w6 w6.heap.size (Nat.le_refl _) (by rw [hUH]; exact RU6.out) RN.out (by omega) (by omega) HPL.out)
  rw [hUH] at HREN
  clear hUH HPL RN
  go_wp2_with fail
  refine HREN.out.mono ?_
  rintro e w7 ⟨v7, vs7, rfl, o7, e7, hb7⟩
  have r7 := fun (t d) (he : v7 = .slice t H d) => RdR.of_own (a := t) (c := d) (n := H) (by rw [← he, ← HML.out]; exact o7) HML.out e7
  rw [HML.out] at o7
  obtain ⟨t7, d7, rfl, _, _, _, _⟩ := own_sliceV o7
  have R7 := Lib.hid (r7 t7 d7 rfl)
  have hb07 := ext_trans hb06 hb7
  have RU7 := Lib.hid (rdr_ext RU6.out hb7)
  have RA7 := Lib.hid (rd_ext RA6.out hb7)
  clear HREN r7 o7 e7 RU6 RA6 hb06 hb7
  generalize bestL n (U.map (renL N)) = b3 at *
  go_wp2_with fail
  refine (HQM.out w7 t7 d7 R7.out).mono ?_
  rintro e w8 ⟨a8, c8, rfl, _, _, _, hb8⟩
  have hb08 := ext_trans hb07 hb8
  have RU8 := Lib.hid (rdr_ext RU7.out hb8)
  have RA8 := Lib.hid (rd_ext RA7.out hb8)
  clear HQM R7 RU7 RA7 hb07 hb8
  have HCL := Lib.hid (cloneR_any va H vc U w8 RU8.out HVZ.out (by omega))
  go_wp2_with fail
  refine HCL.out.mono ?_
  rintro e w9 ⟨v9, vs9, rfl, o9, vl9, hb9⟩
  have RU9 := Lib.hid (RU8.out.below hb9 (Nat.le_refl _))
  have hz9 := hb9.size
  clear HCL
  go_wp2_with (at_builtin; go_must (refine wpAppR w9 w8.heap.size _ H vs9 (by exact o9) va H vc U w8.heap.size HVZ.out RU9.out hz9 (by omega) (by omega) rfl _ _ rfl rfl rfl ?_))
  intro us v10 w10 hus o10 hg10 _
  have vl10 := (vl9.grown hg10 hz9 (own_not o9)).append (hus.grown hg10 hz9 (own_not o9))
  have hb810 : Below w8.heap.size w8 w10 := hb9.grown hg10 hz9 (own_not o9)
  obtain ⟨a10, c10, rfl, _, _, _, _⟩ := own_sliceV o10
  have R10 := Lib.hid (Vals.rdr o10 (by rw [List.length_append, HUL.out]) (vl10.more hb810.size))
  have hb010 := ext_trans hb08 hb810
  have RA10 := Lib.hid (rd_ext RA8.out hb810)
  clear RU8 RU9 RA8 o9 vl9 hb9 hz9 hus o10 hg10 vl10 hb810 hb08
  go_wp2_with fail
  refine (HQT.out w10 a10 c10 R10.out).mono ?_
  rintro e w11 ⟨a11, c11, rfl, _, _, r11, hb11⟩
  rw [HBL.out] at r11 ⊢
  have hb011 := ext_trans hb010 hb11
  have RA11 := Lib.hid (rd_ext RA10.out hb11)
  clear HQT R10 RA10 hb010 hb11
  go_wp2_with fail
  refine (good_zero w11.heap.size 0 4 4 _ (by omega) (zeros_at w11 24 4 #[.int .i64 0, .int .i64 0, .int .i64 0, .int .i64 0] rfl)).mono ?_
  rintro e w' ⟨rfl, rfl⟩
  have b12 : Below w11.heap.size w11 (w11.alloc (.cells #[.int .i64 0, .int .i64 0, .int .i64 0, .int .i64 0] 24)) := (Below.refl _ _).alloc (by omega) _
  have hb012 := ext_trans hb011 b12
  have QE := Lib.hid (equal_ext bl bl a3 a11 n c3 n c11 _ (rd_ext RA11.out b12) (rd_ext r11 b12) (by omega) (by omega))
  rw [show decide (bl = bl) = true by simp] at QE
  clear RA11 r11 b12 hb011
  generalize w11.alloc (.cells #[.int .i64 0, .int .i64 0, .int .i64 0, .int .i64 0] 24) = w12 at *
  have hee : (ln == ln) = true := by simp
  have he2 : (2 * ln == 2 * ln) = true := by simp
  go_wp2_with fail
  refine QE.out.mono ?_
  rintro e w13 ⟨rfl, hb13⟩
  have hbe := ext_trans hb012 hb13
  clear QE hb012 hb13
  go_wp2
  go_ret
  exact ⟨rfl, hbe⟩
end Go.Proofs.Ytobioglccgfkdaa

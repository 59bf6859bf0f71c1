/-
  plumelaw.WorthSays returns true, for every int and three slices of ints, if package worth keeps its contracts; nothing that was there is written.
-/
import Derived.Test.YthcaipnlgbnfkaaCRowOf
import Derived.Test.YthcaipnlgbnfkaaCHoldsOf
import Derived.Test.YthcaipnlgbnfkaaCRoundV
import Derived.Test.YthcaipnlgbnfkaaLawWorthRound
import Derived.Test.YthcaipnlgbnfkaaCOrderErr
import Derived.Test.YthcaipnlgbnfkaaCEqual
namespace Go.Proofs.Ythcaipnlgbnfkaa
open Go.RowKit Fm
set_option linter.unusedVariables false

def badX (x : Int) : Bool := decide (x < -1000000000) || decide (1000000000 < x)
set_option maxHeartbeats 400000 in
set_option maxRecDepth 100000 in
theorem worthSays1_any (x : Int) (w : World) : Calls Try.prog 26 #[.int .i64 x] w fun e w' => e = .returned (.bool (badX x)) ∧ Below w.heap.size w w' := by
  by_cases h : x < -1000000000
  · have e : badX x = true := by unfold badX; simp [h]
    rw [e]
    clear e
    go_enter Try.func26, Try.ntmps26
    go_wp2
    go_ret
    exact ⟨rfl, Below.refl _ w⟩
  · obtain ⟨r, hr⟩ : ∃ r, decide (1000000000 < x) = r := ⟨_, rfl⟩
    have e : badX x = r := by unfold badX; simp [h, hr]
    have E := Lib.hid e
    clear e
    go_enter Try.func26, Try.ntmps26
    go_wp2
    go_ret
    exact ⟨by rw [E.out]; rfl, Below.refl _ w⟩

set_option maxHeartbeats 8000000 in
set_option maxRecDepth 100000 in
theorem worthSays_is (sC : WCheck) (sSE : WShareE) (sS : WShare) (sRE : WRowE) (sR : WRow) (sH : WHolds) (sN : WRound) (n0 : Int) (hn0 : -9223372036854775808 ≤ n0) (hn1 : n0 ≤ 9223372036854775807) (vv : Value) (V : List Int) {w : World} (fv : IsInts w vv V) (vr : Value) (row : List Int) (fr : IsInts w vr row) (vx : Value) (X : List Int) (fx : IsInts w vx X) :
    Calls Try.prog 3 #[.int .i64 n0, vv, vr, vx] w fun e w' => e = .returned (.bool true) ∧ Below w.heap.size w w' := by
  obtain ⟨a, c, rfl, hr, _, hlc, _, hcm, h8⟩ := fv
  obtain ⟨ar, cr, rfl, hrr, _, hlr, _, hcr, hr8⟩ := fr
  obtain ⟨ax, cx, rfl, hrx, _, hlx, _, hcx, hx8⟩ := fx
  have GV : Hid (∀ W, Below w.heap.size w W → LstG W a V.length c V) := fun W hW => ⟨rd_ext hr hW, by omega, hlc⟩
  have GR : Hid (∀ W, Below w.heap.size w W → LstG W ar row.length cr row) := fun W hW => ⟨rd_ext hrr hW, by omega, hlr⟩
  have GX : Hid (∀ W, Below w.heap.size w W → LstG W ax X.length cx X) := fun W hW => ⟨rd_ext hrx hW, by omega, hlx⟩
  have QE : Hid (∀ W, Below w.heap.size w W → Calls Try.prog 18 #[.int .i64 n0, .slice a V.length c] W fun e w' => e = .returned (.int .i64 (gchk n0 V)) ∧ Below W.heap.size W w') := fun W hW => worthErr_any n0 a V.length c V W (GV.out W hW)
  have QC : Hid (∀ W, Below w.heap.size w W → Calls Try.prog 19 #[.int .i64 n0, .slice a V.length c] W fun e w' => e = .returned (.int .i64 (gchk n0 V)) ∧ Below W.heap.size W w') := fun W hW => sC n0 a V.length c V W (GV.out W hW)
  have QN : Hid (∀ W, Below w.heap.size w W → Calls Try.prog 17 #[.int .i64 n0, .slice a V.length c] W fun e w' => e = .returned (.tuple #[.bool (roundA n0 V), .int .i64 (gchk n0 V)]) ∧ Below W.heap.size W w') := fun W hW => sN n0 a V.length c V W (GV.out W hW)
  have QH : Hid (∀ W, Below w.heap.size w W → Calls Try.prog 16 #[.int .i64 n0, .slice a V.length c, .slice ax X.length cx] W fun e w' => e = .returned (.tuple #[.bool (holdA n0 V X), .int .i64 (hdchk n0 V X)]) ∧ Below W.heap.size W w') := fun W hW => sH n0 a V.length c V ax X.length cx X W (GV.out W hW) (GX.out W hW)
  unfold maxLen at hcm hcr hcx
  by_cases hk : gchk n0 V = 0
  · obtain ⟨n, rfl, g⟩ := gchk_ok hk
    have h1 := g.pos
    have h6 := g.le
    obtain ⟨N, hN⟩ : ∃ N, 2 ^ n = N := ⟨_, rfl⟩
    have hVN : V.length = N := by rw [g.len, hN]
    have hN64 : N ≤ 64 := by rw [← hN]; exact pow6 h6
    have QS := Lib.hid (sS n a V.length c V w (GV.out w (Below.refl _ w)) g)
    unfold OwnOut at QS
    have QSH : Hid (∀ W, Below w.heap.size w W → Calls Try.prog 21 #[.int .i64 n, .slice a N c] W fun e w' => ∃ v, e = .returned v ∧ w'.ownsRow W.heap.size 3 1 v n (I (shL n V)) ∧ Below W.heap.size W w') := fun W hW => sharedOf_any g hN a c W (by rw [← hVN]; exact rd_ext hr hW)
    have QRV : Hid (∀ W, Below w.heap.size w W → Calls Try.prog 22 #[.slice a N c] W fun e w' => e = .returned (.bool (convB n V)) ∧ Below W.heap.size W w') := fun W hW => roundOfV_any g hN a c W (by rw [← hVN]; exact rd_ext hr hW)
    have QO : Hid (∀ W, Below w.heap.size w W → Calls Try.prog 23 #[.int .i64 n, .slice ar row.length cr] W fun e w' => e = .returned (.int .i64 (chk n row)) ∧ Below W.heap.size W w') := fun W hW => orderErr_any n ar row.length cr row W W.heap.size (Nat.le_refl _) (rd_ext hrr hW) hr8
    have QX : Hid (∀ W, Below w.heap.size w W → Calls Try.prog 25 #[.slice ax X.length cx, .func (.func 26) #[] #[]] W fun e w' => e = .returned (.bool (X.any badX)) ∧ Below W.heap.size W w') := fun W hW => containsFuncI_any 26 (fun _ _ => rfl) #[] badX ax X.length cx X W W.heap.size (Nat.le_refl _) (rd_ext hrx hW) (by omega) (fun x _ w1 _ => worthSays1_any x w1)
    have QHO : Hid (X.length = n → (∀ x ∈ X, -1000000000 ≤ x ∧ x ≤ 1000000000) → ∀ W, Below w.heap.size w W → Calls Try.prog 27 #[.slice a N c, .slice ax X.length cx] W fun e w' => e = .returned (.bool (coreB n V X)) ∧ Below W.heap.size W w') := fun e1 e2 W hW => by
      have := rd_ext hrx hW
      rw [e1] at this ⊢
      exact holdsOf_any g hN e1 e2 a ax c cx (by omega) (by omega) W (by rw [← hVN]; exact rd_ext hr hW) this
    have hha : holdA n V X = (decide (hdchk n V X = 0) && coreB n V X) := by unfold holdA; rw [Int.toNat_natCast]
    have hhd : hdchk n V X = if (X.length : Int) ≠ (n : Int) then 3 else if ¬ (∀ x ∈ X, -1000000000 ≤ x ∧ x ≤ 1000000000) then 1 else 0 := by unfold hdchk; rw [if_neg (by simpa using hk)]
    have hra := round_ok g
    rw [hk] at QE QC QN
    rw [hra] at QN
    rw [shL_len, hVN] at QS
    rw [hVN] at QE QC QN QH
    -- the row
    have HROW : Hid ((chk n row = 0 ∧ ∀ W, Below w.heap.size w W → Calls Try.prog 15 #[.int .i64 n, .slice a N c, .slice ar row.length cr] W (OwnOut (rowL n V row) W) ∧ Calls Try.prog 24 #[.slice a N c, .slice ar row.length cr] W fun e w' => ∃ v, e = .returned v ∧ w'.ownsRow W.heap.size 3 1 v n (I (rowL n V row)) ∧ Below W.heap.size W w') ∨ (chk n row ≠ 0 ∧ ∀ W, Below w.heap.size w W → Calls Try.prog 15 #[.int .i64 n, .slice a N c, .slice ar row.length cr] W (ErrOut 3 W))) := by
      by_cases q : chk n row = 0
      · obtain ⟨_, hl, ho⟩ := chk_zero q
        have hperm := isOrd_perm (show row.length = n by omega) ho
        refine .inl ⟨q, fun W hW => ⟨?_, ?_⟩⟩
        · have := sR n a V.length c V ar row.length cr row W (GV.out W hW) (GR.out W hW) g hperm
          rw [hVN] at this
          exact this
        · have e1 : row.length = n := by omega
          have h2 := rd_ext hrr hW
          rw [e1] at h2 ⊢
          exact rowOf_any g hN hperm a ar c cr W (by rw [← hVN]; exact rd_ext hr hW) h2
      · refine .inr ⟨q, fun W hW => ?_⟩
        have e1 : rwchk n V row = 3 := by unfold rwchk; rw [if_neg (by simpa using hk), if_pos q]
        have := sRE n a V.length c V ar row.length cr row W (GV.out W hW) (GR.out W hW) (by rw [e1]; decide)
        rw [e1, hVN] at this
        exact this
    -- what is asked of x
    have HXC : Hid ((¬ X.length = n ∧ hdchk n V X = 3 ∧ holdA n V X = false) ∨ (X.length = n ∧ X.any badX = true ∧ hdchk n V X = 1 ∧ holdA n V X = false) ∨ (X.length = n ∧ X.any badX = false ∧ hdchk n V X = 0 ∧ holdA n V X = coreB n V X ∧ ∀ W, Below w.heap.size w W → Calls Try.prog 27 #[.slice a N c, .slice ax X.length cx] W fun e w' => e = .returned (.bool (coreB n V X)) ∧ Below W.heap.size W w')) := by
      by_cases q : X.length = n
      · rw [if_neg (by rw [q]; simp)] at hhd
        cases hb : X.any badX with
        | true =>
          have e1 : hdchk n V X = 1 := by
            rw [hhd, if_pos]
            intro hall
            rw [List.any_eq_true] at hb
            obtain ⟨x, hx, hbx⟩ := hb
            have := hall x hx
            unfold badX at hbx
            simp at hbx
            omega
          exact .inr (.inl ⟨q, rfl, e1, by rw [hha, e1]; rfl⟩)
        | false =>
          have hall : ∀ x ∈ X, -1000000000 ≤ x ∧ x ≤ 1000000000 := fun x hx => by
            rw [List.any_eq_false] at hb
            have := hb x hx
            unfold badX at this
            simp at this
            omega
          have e1 : hdchk n V X = 0 := by rw [hhd, if_neg (by simpa using hall)]
          exact .inr (.inr ⟨q, rfl, e1, by rw [hha, e1]; simp, QHO.out q hall⟩)
      · have e1 : hdchk n V X = 3 := by rw [hhd, if_pos (by omega)]
        exact .inl ⟨q, e1, by rw [hha, e1]; rfl⟩
    have HRLN := Lib.hid (rowL_len n V row)
    clear hha hhd hra hk g sC sSE sS sRE sR sH sN GV GR GX hr hrr hrx QHO
    rw [hVN]
    clear hVN hN
    generalize hdchk n V X = hd at *
    generalize holdA n V X = ha at *
    generalize convB n V = cv at *
    generalize coreB n V X = co at *
    generalize shL n V = sh at *
    generalize rowL n V row = rl at *
    generalize chk n row = ck at *
    generalize X.any badX = bx at *
    generalize row.length = mr at *
    generalize X.length = mx at *
    go_enter Try.func3, Try.ntmps3
    go_wp2_with fail
    refine QS.out.mono ?_
    rintro e w1 ⟨v1, rfl, o1, hb1⟩
    obtain ⟨a1, c1, rfl, _, _⟩ := own_slice o1
    have R1 := Lib.hid (Rd.of_own o1)
    clear QS o1
    rcases HROW.out with ⟨hck, hrow⟩ | ⟨hck, hrow⟩
    case' inl =>
      subst hck
      have HRA : Hid (∀ W, Below w.heap.size w W → Calls Try.prog 15 #[.int .i64 n, .slice a N c, .slice ar mr cr] W (OwnOut rl W)) := fun W hW => (hrow W hW).1
      have HRB : Hid (∀ W, Below w.heap.size w W → Calls Try.prog 24 #[.slice a N c, .slice ar mr cr] W fun e w' => ∃ v, e = .returned v ∧ w'.ownsRow W.heap.size 3 1 v n (I rl) ∧ Below W.heap.size W w') := fun W hW => (hrow W hW).2
      clear hrow HROW
      unfold OwnOut at HRA
      rw [HRLN.out] at HRA
      go_wp2_with fail
      refine (HRA.out w1 hb1).mono ?_
      rintro e w2 ⟨v2, rfl, o2, hb2⟩
      obtain ⟨a2, c2, rfl, _, _⟩ := own_slice o2
      have R2 := Lib.hid (Rd.of_own o2)
      have hb02 := ext_trans hb1 hb2
      have R12 := Lib.hid (rd_ext R1.out hb2)
      clear HRA o2 R1 hb1 hb2
      go_wp2_with fail
      refine (QH.out w2 hb02).mono ?_
      rintro e w3 ⟨rfl, hb3⟩
      have hb03 := ext_trans hb02 hb3
      go_wp2_with fail
      refine (QN.out w3 hb03).mono ?_
      rintro e w4 ⟨rfl, hb4⟩
      have hb04 := ext_trans hb03 hb4
      go_wp2_with fail
      refine (QE.out w4 hb04).mono ?_
      rintro e w5 ⟨rfl, hb5⟩
      have hb05 := ext_trans hb04 hb5
      go_wp2_with fail
      refine (QC.out w5 hb05).mono ?_
      rintro e w6 ⟨rfl, hb6⟩
      have hb06 := ext_trans hb05 hb6
      have b26 := ext_trans (ext_trans (ext_trans hb3 hb4) hb5) hb6
      have R16 := Lib.hid (rd_ext R12.out b26)
      clear QH QN QE QC R12 hb02 hb03 hb04 hb05 hb3 hb4 hb5 hb6
      go_wp2_with fail
      refine (QSH.out w6 hb06).mono ?_
      rintro e w7 ⟨v7, rfl, o7, hb7⟩
      have hb07 := ext_trans hb06 hb7
      obtain ⟨a7, c7, rfl, _, _⟩ := own_slice o7
      have HE := Lib.hid (equal_ext sh sh a1 a7 n c1 n c7 w7 (rd_ext R16.out hb7) (Rd.of_own o7) (by omega) (by omega))
      rw [decide_eq_true rfl] at HE
      have b27 := ext_trans b26 hb7
      clear QSH R16 o7 hb06 b26 hb7
      go_wp2_with fail
      refine HE.out.mono ?_
      rintro e w8 ⟨rfl, hb8⟩
      have hb08 := ext_trans hb07 hb8
      have b28 := ext_trans b27 hb8
      clear HE hb07 b27 hb8
      go_wp2_with fail
      refine (QRV.out w8 hb08).mono ?_
      rintro e w9 ⟨rfl, hb9⟩
      have hb09 := ext_trans hb08 hb9
      have b29 := ext_trans b28 hb9
      clear QRV hb08 b28 hb9
      go_wp2_with fail
      refine (QO.out w9 hb09).mono ?_
      rintro e w10 ⟨rfl, hb10⟩
      have hb010 := ext_trans hb09 hb10
      have b210 := ext_trans b29 hb10
      clear QO hb09 b29 hb10
      go_wp2_with fail
      refine (HRB.out w10 hb010).mono ?_
      rintro e w11 ⟨v11, rfl, o11, hb11⟩
      obtain ⟨a11, c11, rfl, _, _⟩ := own_slice o11
      have HE := Lib.hid (equal_ext rl rl a2 a11 n c2 n c11 w11 (rd_ext (rd_ext R2.out b210) hb11) (Rd.of_own o11) (by omega) (by omega))
      rw [decide_eq_true rfl] at HE
      have hb011 := ext_trans hb010 hb11
      clear HRB o11 R2 hb010 b210 hb11
      go_wp2_with fail
      refine HE.out.mono ?_
      rintro e w12 ⟨rfl, hb12⟩
      have hb012 := ext_trans hb011 hb12
      clear HE hb011 hb12
    case' inr =>
      have HRE := Lib.hid hrow
      have hckb : (ck != 0) = true := by simpa using hck
      clear hrow HROW hck
      go_wp2_with fail
      refine (HRE.out w1 hb1).mono ?_
      rintro e w2 ⟨a2, c2, rfl, hb2⟩
      have hb02 := ext_trans hb1 hb2
      have R12 := Lib.hid (rd_ext R1.out hb2)
      clear HRE R1 hb1 hb2
      go_wp2_with fail
      refine (QH.out w2 hb02).mono ?_
      rintro e w3 ⟨rfl, hb3⟩
      have hb03 := ext_trans hb02 hb3
      go_wp2_with fail
      refine (QN.out w3 hb03).mono ?_
      rintro e w4 ⟨rfl, hb4⟩
      have hb04 := ext_trans hb03 hb4
      go_wp2_with fail
      refine (QE.out w4 hb04).mono ?_
      rintro e w5 ⟨rfl, hb5⟩
      have hb05 := ext_trans hb04 hb5
      go_wp2_with fail
      refine (QC.out w5 hb05).mono ?_
      rintro e w6 ⟨rfl, hb6⟩
      have hb06 := ext_trans hb05 hb6
      have b26 := ext_trans (ext_trans (ext_trans hb3 hb4) hb5) hb6
      have R16 := Lib.hid (rd_ext R12.out b26)
      clear QH QN QE QC R12 hb02 hb03 hb04 hb05 hb3 hb4 hb5 hb6
      go_wp2_with fail
      refine (QSH.out w6 hb06).mono ?_
      rintro e w7 ⟨v7, rfl, o7, hb7⟩
      have hb07 := ext_trans hb06 hb7
      obtain ⟨a7, c7, rfl, _, _⟩ := own_slice o7
      have HE := Lib.hid (equal_ext sh sh a1 a7 n c1 n c7 w7 (rd_ext R16.out hb7) (Rd.of_own o7) (by omega) (by omega))
      rw [decide_eq_true rfl] at HE
      have b27 := ext_trans b26 hb7
      clear QSH R16 o7 hb06 b26 hb7
      go_wp2_with fail
      refine HE.out.mono ?_
      rintro e w8 ⟨rfl, hb8⟩
      have hb08 := ext_trans hb07 hb8
      have b28 := ext_trans b27 hb8
      clear HE hb07 b27 hb8
      go_wp2_with fail
      refine (QRV.out w8 hb08).mono ?_
      rintro e w9 ⟨rfl, hb9⟩
      have hb09 := ext_trans hb08 hb9
      have b29 := ext_trans b28 hb9
      clear QRV hb08 b28 hb9
      go_wp2_with fail
      refine (QO.out w9 hb09).mono ?_
      rintro e w10 ⟨rfl, hb10⟩
      have hb010 := ext_trans hb09 hb10
      have b210 := ext_trans b29 hb10
      clear QO hb09 b29 hb10
      obtain ⟨w12, rfl⟩ : ∃ w12, w12 = w10 := ⟨_, rfl⟩
      have hb012 := hb010
      clear hb010 b210
    all_goals
      rcases HXC.out with ⟨x1, rfl, rfl⟩ | ⟨rfl, rfl, rfl, rfl⟩ | ⟨rfl, rfl, rfl, rfl, hho⟩
      · have xb : ((mx : Int) != (n : Int)) = true := by simp; omega
        clear HXC QX
        go_wp2
        go_ret
        exact ⟨rfl, hb012⟩
      · have xb : ((mx : Int) != (mx : Int)) = false := by simp
        clear HXC
        go_wp2_with fail
        refine (QX.out w12 hb012).mono ?_
        rintro e w13 ⟨rfl, hb13⟩
        have hb013 := ext_trans hb012 hb13
        clear QX hb012 hb13
        go_wp2
        go_ret
        exact ⟨rfl, hb013⟩
      · have xb : ((mx : Int) != (mx : Int)) = false := by simp
        have HHO := Lib.hid hho
        clear HXC hho
        go_wp2_with fail
        refine (QX.out w12 hb012).mono ?_
        rintro e w13 ⟨rfl, hb13⟩
        have hb013 := ext_trans hb012 hb13
        clear QX hb012 hb13
        go_wp2_with fail
        refine (HHO.out w13 hb013).mono ?_
        rintro e w14 ⟨rfl, hb14⟩
        have hb014 := ext_trans hb013 hb14
        clear HHO hb013 hb14
        go_wp2
        go_ret
        exact ⟨by simp, hb014⟩
  · have hne : (gchk n0 V != 0) = true := by simpa using hk
    have QS := Lib.hid (sSE n0 a V.length c V w (GV.out w (Below.refl _ w)) hk)
    have QR : Hid (∀ W, Below w.heap.size w W → Calls Try.prog 15 #[.int .i64 n0, .slice a V.length c, .slice ar row.length cr] W (ErrOut (gchk n0 V) W)) := fun W hW => by
      have e1 : rwchk n0 V row = gchk n0 V := by unfold rwchk; rw [if_pos hk]
      have := sRE n0 a V.length c V ar row.length cr row W (GV.out W hW) (GR.out W hW) (by rw [e1]; exact hk)
      rw [e1] at this
      exact this
    have e2 : hdchk n0 V X = gchk n0 V := by unfold hdchk; rw [if_pos hk]
    have e3 : holdA n0 V X = false := by unfold holdA; rw [e2, decide_eq_false hk]; rfl
    have e4 : roundA n0 V = false := by unfold roundA; rw [decide_eq_false hk]; rfl
    rw [e2, e3] at QH
    rw [e4] at QN
    clear e2 e3 e4 hk sC sSE sS sRE sR sH sN GV GR GX hr hrr hrx
    generalize gchk n0 V = r at *
    have hrr : (r == r) = true := by simp
    generalize V.length = N at *
    generalize row.length = mr at *
    generalize X.length = mx at *
    go_enter Try.func3, Try.ntmps3
    go_wp2_with fail
    refine QS.out.mono ?_
    rintro e w1 ⟨a1, c1, rfl, hb1⟩
    go_wp2_with fail
    refine (QR.out w1 hb1).mono ?_
    rintro e w2 ⟨a2, c2, rfl, hb2⟩
    have hb02 := ext_trans hb1 hb2
    go_wp2_with fail
    refine (QH.out w2 hb02).mono ?_
    rintro e w3 ⟨rfl, hb3⟩
    have hb03 := ext_trans hb02 hb3
    go_wp2_with fail
    refine (QN.out w3 hb03).mono ?_
    rintro e w4 ⟨rfl, hb4⟩
    have hb04 := ext_trans hb03 hb4
    go_wp2_with fail
    refine (QE.out w4 hb04).mono ?_
    rintro e w5 ⟨rfl, hb5⟩
    have hb05 := ext_trans hb04 hb5
    go_wp2_with fail
    refine (QC.out w5 hb05).mono ?_
    rintro e w6 ⟨rfl, hb6⟩
    have hb06 := ext_trans hb05 hb6
    clear QS QR QH QN QE QC hb1 hb2 hb3 hb4 hb5 hb6 hb02 hb03 hb04 hb05
    go_wp2
    go_ret
    exact ⟨rfl, hb06⟩
end Go.Proofs.Ythcaipnlgbnfkaa

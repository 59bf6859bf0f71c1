/-
  plumelaw.SeatsSay returns true, for every two ints and slice of ints, if package seats keeps its contracts; nothing that was there is written.
-/
import Derived.Test.YtedllchlhdjanaaCShZ
import Derived.Test.YtedllchlhdjanaaCShP
import Derived.Test.YtedllchlhdjanaaCFuncI
import Derived.Test.YtedllchlhdjanaaCContains
import Derived.Test.YtedllchlhdjanaaCEqual
import Derived.Test.YtedllchlhdjanaaPureB
namespace Go.Proofs.Ytedllchlhdjanaa
open Go.RowKit Fm
set_option linter.unusedVariables false

def badP (x : Int) : Bool := decide (x < 0) || decide (1000000 < x)
set_option maxHeartbeats 400000 in
set_option maxRecDepth 100000 in
theorem people1_any (x : Int) (w : World) : Calls Try.prog 22 #[.int .i64 x] w fun e w' => e = .returned (.bool (badP x)) ∧ Below w.heap.size w w' := by
  by_cases h : x < 0
  · have e : badP x = true := by unfold badP; simp [h]
    rw [e]
    clear e
    go_enter Try.func22, Try.ntmps22
    go_wp2
    go_ret
    exact ⟨rfl, Below.refl _ w⟩
  · obtain ⟨r, hr⟩ : ∃ r, decide (1000000 < x) = r := ⟨_, rfl⟩
    have e : badP x = r := by unfold badP; simp [h, hr]
    have E := Lib.hid e
    clear e
    go_enter Try.func22, Try.ntmps22
    go_wp2
    go_ret
    exact ⟨by rw [E.out]; rfl, Below.refl _ w⟩

set_option maxHeartbeats 1000000 in
set_option maxRecDepth 100000 in
theorem peopleErr_any (a : Option Addr) (m c : Nat) (P : List Int) (h : Int) (w : World) (hL : LstS w a m c P) :
    Calls Try.prog 10 #[.slice a m c, .int .i64 h] w fun e w' => e = .returned (.int .i64 (pchk P h)) ∧ Below w.heap.size w w' := by
  obtain ⟨hr, hm, hmc⟩ := hL
  have hln : P.length = m := hr.1
  by_cases h0 : m = 0
  · have e : pchk P h = 2 := by unfold pchk; rw [if_pos (.inl (by omega))]
    rw [e]
    subst h0
    clear e hr hln
    go_enter Try.func10, Try.ntmps10
    go_wp2
    go_ret
    exact ⟨rfl, Below.refl _ w⟩
  · have h0b : ((m : Int) == 0) = false := beq_eq_false_iff_ne.2 (by omega)
    by_cases h8 : 8 < m
    · have e : pchk P h = 2 := by unfold pchk; rw [if_pos (.inr (by omega))]
      rw [e]
      clear e hr hln
      go_enter Try.func10, Try.ntmps10
      go_wp2
      go_ret
      exact ⟨rfl, Below.refl _ w⟩
    · have e : pchk P h = if ¬ (∀ x ∈ P, 0 ≤ x ∧ x ≤ 1000000) then 1 else if (∀ x ∈ P, x = 0) then 4 else if h < 0 ∨ 100 < h then 1 else 0 := by unfold pchk; rw [if_neg (by omega)]
      have QC := Lib.hid (containsFuncI_any 22 (fun _ _ => rfl) #[] badP a m c P w w.heap.size (Nat.le_refl _) hr hm (fun x _ w1 _ => people1_any x w1))
      have QM : Hid (∀ W, Below w.heap.size w W → Calls Try.prog 23 #[.slice a m c] W fun e w' => e = .returned (.int .i64 (Lib.maxOf P)) ∧ W = w') := fun W hW => max_any P a m c W W.heap.size (by omega) (rd_ext hr hW) (by omega)
      cases hb : P.any badP with
      | true =>
        rw [hb] at QC
        have e1 : pchk P h = 1 := by
          rw [e, if_pos]
          intro hall
          rw [List.any_eq_true] at hb
          obtain ⟨x, hx, hbx⟩ := hb
          have := hall x hx
          unfold badP at hbx
          simp at hbx
          omega
        rw [e1]
        clear e e1 hb hr hln QM
        go_enter Try.func10, Try.ntmps10
        go_wp2_with fail
        refine QC.out.mono ?_
        rintro e w1 ⟨rfl, hb1⟩
        clear QC
        go_wp2
        go_ret
        exact ⟨rfl, hb1⟩
      | false =>
        rw [hb] at QC
        have hall : ∀ x ∈ P, 0 ≤ x ∧ x ≤ 1000000 := fun x hx => by
          rw [List.any_eq_false] at hb
          have := hb x hx
          unfold badP at this
          simp at this
          omega
        rw [if_neg (by simpa using hall)] at e
        have hmax : Lib.maxOf P = 0 ↔ ∀ x ∈ P, x = 0 := by
          have hmx : Lib.maxOf P = most P := rfl
          rw [hmx]
          constructor
          · intro q x hx
            obtain ⟨i, hi, rfl⟩ := List.getElem_of_mem hx
            have h1 := most_ge hi
            rw [getD_get hi] at h1
            have h2 := hall _ hx
            omega
          · intro q
            have h1 := q _ (most_mem (by omega))
            exact h1
        have E : Hid (pchk P h = if Lib.maxOf P = 0 then 4 else if h < 0 ∨ 100 < h then 1 else 0) := by
          show _ = _
          rw [e]
          by_cases q : Lib.maxOf P = 0
          · rw [if_pos q, if_pos (hmax.1 q)]
          · rw [if_neg q, if_neg (fun q2 => q (hmax.2 q2))]
        clear e hmax hall hb hr hln
        generalize Lib.maxOf P = mx at *
        generalize pchk P h = res at *
        go_enter Try.func10, Try.ntmps10
        go_wp2_with fail
        refine QC.out.mono ?_
        rintro e w1 ⟨rfl, hb1⟩
        clear QC
        go_wp2_with fail
        refine (QM.out w1 hb1).mono ?_
        rintro e w2 ⟨rfl, rfl⟩
        clear QM
        by_cases c0 : mx = 0
        · rw [if_pos c0] at E
          obtain rfl : res = 4 := E.out
          subst c0
          go_wp2
          go_ret
          exact ⟨rfl, hb1⟩
        · rw [if_neg c0] at E
          have c0b : (mx == 0) = false := by simpa using c0
          clear c0
          by_cases c1 : h < 0
          · rw [if_pos (.inl c1)] at E
            obtain rfl : res = 1 := E.out
            go_wp2
            go_ret
            exact ⟨rfl, hb1⟩
          · by_cases c2 : 100 < h
            · rw [if_pos (.inr c2)] at E
              obtain rfl : res = 1 := E.out
              go_wp2
              go_ret
              exact ⟨rfl, hb1⟩
            · rw [if_neg (by omega)] at E
              obtain rfl : res = 0 := E.out
              go_wp2
              go_ret
              exact ⟨rfl, hb1⟩

theorem sharesOf_any (way : Int) (hw1 : 1 ≤ way) (hw3 : way ≤ 3) {P : List Int} (p : Ppl P) {n : Nat} (hn : P.length = n) (h : Nat) (hh : h ≤ 100) (a : Option Addr) (c : Nat) (w : World) (hr : Rd w w.heap.size a n P) :
    Calls Try.prog 13 #[.int .i64 way, .slice a n c, .int .i64 h] w fun e w' => ∃ v, e = .returned v ∧ w'.ownsRow w.heap.size 3 1 v n (I (sharesL way P h)) ∧ Below w.heap.size w w' := by
  have key : ∀ f : Nat → Nat, (∀ i, shareN way P h i = f i) → natL n f = sharesL way P h := fun f hf => by
    unfold natL sharesL
    rw [hn]
    exact fnL_congr n (fun j hj => by rw [hf])
  by_cases e3 : way = 3
  · subst e3
    have := sharesP_any p hn h hh a c w hr
    unfold ShOf at this
    rw [key (partS n (xs P) h) (fun i => by unfold shareN; rw [if_pos rfl, hn])] at this
    exact this
  · obtain ⟨wy, rfl⟩ : ∃ wy : Nat, way = wy := ⟨way.toNat, by omega⟩
    have e := key (seatT wy n (xs P) h) (fun i => by unfold shareN; rw [if_neg e3, hn]; rfl)
    by_cases h0 : h = 0
    · subst h0
      have := sharesZ_any p hn wy (by omega) (by omega) a c w hr
      unfold ShOf at this
      rw [show (fun _ => 0) = seatT wy n (xs P) 0 from rfl, e] at this
      exact this
    · have := sharesD_any p hn wy (by omega) (by omega) h (by omega) hh a c w hr
      unfold ShOf at this
      rw [e] at this
      exact this

set_option maxHeartbeats 4000000 in
set_option maxRecDepth 100000 in
theorem seatsSay_is (sC : SCheck) (sE : SShareE) (sS : SShare) (w0 : Int) (hw0 : -9223372036854775808 ≤ w0) (hw1 : w0 ≤ 9223372036854775807) (v1 : Value) (P : List Int) {w : World} (f1 : IsInts w v1 P) (n0 : Int) (hn0 : -9223372036854775808 ≤ n0) (hn1 : n0 ≤ 9223372036854775807) :
    Calls Try.prog 3 #[.int .i64 w0, v1, .int .i64 n0] w fun e w' => e = .returned (.bool true) ∧ Below w.heap.size w w' := by
  obtain ⟨a, c, rfl, hr, hox, hlc, _, hcm, hp8⟩ := f1
  have HLS : Hid (∀ W, Below w.heap.size w W → LstS W a P.length c P) := fun W hW => ⟨rd_ext hr hW, by omega, hlc⟩
  have QC : Hid (∀ W, Below w.heap.size w W → Calls Try.prog 11 #[.slice a P.length c, .int .i64 n0] W fun e w' => e = .returned (.int .i64 (pchk P n0)) ∧ Below W.heap.size W w') := fun W hW => sC a P.length c P n0 W (HLS.out W hW)
  have QP : Hid (∀ W, Below w.heap.size w W → Calls Try.prog 10 #[.slice a P.length c, .int .i64 n0] W fun e w' => e = .returned (.int .i64 (pchk P n0)) ∧ Below W.heap.size W w') := fun W hW => peopleErr_any a P.length c P n0 W (HLS.out W hW)
  have HR := Lib.hid hr
  by_cases hk : schk w0 P n0 = 0
  · have hw : 1 ≤ w0 ∧ w0 ≤ 3 := by
      by_cases q : w0 < 1 ∨ 3 < w0
      · unfold schk at hk; rw [if_pos q] at hk; cases hk
      · omega
    obtain ⟨hw1, hw3⟩ := hw
    have hp : pchk P n0 = 0 := by unfold schk at hk; rwa [if_neg (by omega)] at hk
    obtain ⟨p, hh0, hh⟩ := pchk_ok hp
    obtain ⟨h, rfl⟩ : ∃ h : Nat, n0 = h := ⟨n0.toNat, by omega⟩
    have hpl := p.le
    have QS := Lib.hid (sS w0 a P.length c P h w (HLS.out w (Below.refl _ w)) hk)
    have QO : Hid (∀ W, Below w.heap.size w W → Calls Try.prog 13 #[.int .i64 w0, .slice a P.length c, .int .i64 h] W fun e w' => ∃ v, e = .returned v ∧ w'.ownsRow W.heap.size 3 1 v P.length (I (sharesL w0 P h)) ∧ Below W.heap.size W w') := fun W hW => sharesOf_any w0 hw1 hw3 p rfl h (by omega) a c W (rd_ext HR.out hW)
    have HSL := Lib.hid (shares_len w0 P h)
    rw [hp] at QC QP
    clear hk hp p HLS sC sE sS hr hox
    generalize sharesL w0 P h = res at *
    generalize P.length = n at *
    go_enter Try.func3, Try.ntmps3
    go_wp2_with fail
    refine QS.out.mono ?_
    rintro e w1 ⟨a1, c1, rfl, _, _, r1, hb1⟩
    rw [HSL.out] at r1 ⊢
    have R1 := Lib.hid r1
    clear QS r1
    go_wp2_with fail
    refine (QP.out w1 hb1).mono ?_
    rintro e w2 ⟨rfl, hb2⟩
    have hb12 := ext_trans hb1 hb2
    go_wp2_with fail
    refine (QC.out w2 hb12).mono ?_
    rintro e w3 ⟨rfl, hb3⟩
    have hb13 := ext_trans hb12 hb3
    have R3 := Lib.hid (rd_ext R1.out (ext_trans hb2 hb3))
    clear QP QC R1 hb1 hb2 hb3 hb12
    go_wp2_with fail
    refine (QO.out w3 hb13).mono ?_
    rintro e w4 ⟨v4, rfl, o4, hb4⟩
    obtain ⟨a4, c4, rfl, _, _⟩ := own_slice o4
    have hb14 := ext_trans hb13 hb4
    have Q := Lib.hid (equal_ext res res a1 a4 n c1 n c4 w4 (rd_ext R3.out hb4) (Rd.of_own o4) (by omega) (by omega))
    rw [decide_eq_true rfl] at Q
    clear QO R3 o4 hb13 hb4
    go_wp2_with fail
    refine Q.out.mono ?_
    rintro e w5 ⟨rfl, hb5⟩
    have hb15 := ext_trans hb14 hb5
    clear Q hb14 hb5
    go_wp2
    go_ret
    exact ⟨rfl, hb15⟩
  · have QS := Lib.hid (sE w0 a P.length c P n0 w (HLS.out w (Below.refl _ w)) hk)
    have hkb : (schk w0 P n0 == schk w0 P n0) = true := by simp
    by_cases hlo : w0 < 1
    · have e1 : schk w0 P n0 = 1 := by unfold schk; rw [if_pos (.inl hlo)]
      rw [e1] at QS
      clear hk hkb e1 HLS sC sE sS hr hox
      generalize pchk P n0 = r at *
      generalize P.length = n at *
      go_enter Try.func3, Try.ntmps3
      go_wp2_with fail
      refine QS.out.mono ?_
      rintro e w1 ⟨a1, c1, rfl, hb1⟩
      clear QS
      go_wp2_with fail
      refine (QP.out w1 hb1).mono ?_
      rintro e w2 ⟨rfl, hb2⟩
      have hb12 := ext_trans hb1 hb2
      go_wp2_with fail
      refine (QC.out w2 hb12).mono ?_
      rintro e w3 ⟨rfl, hb3⟩
      have hb13 := ext_trans hb12 hb3
      clear QP QC hb1 hb2 hb3 hb12
      go_wp2
      go_ret
      exact ⟨rfl, hb13⟩
    · by_cases hhi : 3 < w0
      · have e1 : schk w0 P n0 = 1 := by unfold schk; rw [if_pos (.inr hhi)]
        rw [e1] at QS
        clear hk hkb e1 HLS sC sE sS hr hox
        generalize pchk P n0 = r at *
        generalize P.length = n at *
        go_enter Try.func3, Try.ntmps3
        go_wp2_with fail
        refine QS.out.mono ?_
        rintro e w1 ⟨a1, c1, rfl, hb1⟩
        clear QS
        go_wp2_with fail
        refine (QP.out w1 hb1).mono ?_
        rintro e w2 ⟨rfl, hb2⟩
        have hb12 := ext_trans hb1 hb2
        go_wp2_with fail
        refine (QC.out w2 hb12).mono ?_
        rintro e w3 ⟨rfl, hb3⟩
        have hb13 := ext_trans hb12 hb3
        clear QP QC hb1 hb2 hb3 hb12
        go_wp2
        go_ret
        exact ⟨rfl, hb13⟩
      · have e1 : schk w0 P n0 = pchk P n0 := by unfold schk; rw [if_neg (by omega)]
        rw [e1] at QS hk hkb
        have hkn : (pchk P n0 != 0) = true := by simpa using hk
        clear hk e1 HLS sC sE sS hr hox
        generalize pchk P n0 = r at *
        generalize P.length = n at *
        go_enter Try.func3, Try.ntmps3
        go_wp2_with fail
        refine QS.out.mono ?_
        rintro e w1 ⟨a1, c1, rfl, hb1⟩
        clear QS
        go_wp2_with fail
        refine (QP.out w1 hb1).mono ?_
        rintro e w2 ⟨rfl, hb2⟩
        have hb12 := ext_trans hb1 hb2
        go_wp2_with fail
        refine (QC.out w2 hb12).mono ?_
        rintro e w3 ⟨rfl, hb3⟩
        have hb13 := ext_trans hb12 hb3
        clear QP QC hb1 hb2 hb3 hb12
        go_wp2
        go_ret
        exact ⟨rfl, hb13⟩
end Go.Proofs.Ytedllchlhdjanaa

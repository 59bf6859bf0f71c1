/-
  peak.Along, peak.All and peak.Middle answer what the document says, whatever is handed in that a machine can hold; nothing that was there is written.
-/
import Derived.Test.YthcaipnlgbnfkaaCPSingle
import Derived.Test.YthcaipnlgbnfkaaCTCheck
import Derived.Test.YthcaipnlgbnfkaaM4
namespace Go.Proofs.Ythcaipnlgbnfkaa
open Go.RowKit Fm
set_option linter.unusedVariables false

theorem chk_arg_eq {n : Int} {l l' : List Int} (h : chk n l ≠ 0) (h1 : n < 1 ∨ 6 < n) : chk n l = chk n l' := by rw [chk_arg h1, chk_arg h1]

set_option maxHeartbeats 1000000 in
set_option maxRecDepth 100000 in
theorem pAlong : PAlong := by
  intro al ml cl line ap mp cp p w hL hP
  obtain ⟨hrl, hml, _⟩ := hL
  obtain ⟨hrp, hmp, _⟩ := hP
  have hln : line.length = ml := hrl.1
  have hlp : p.length = mp := hrp.1
  have QL := Lib.hid (check_any ml al ml cl line w w.heap.size (Nat.le_refl _) hrl)
  have QP : Hid (∀ W, Below w.heap.size w W → Calls Try.prog 52 #[.int .i64 ml, .slice ap mp cp] W fun e w' => e = .returned (.int .i64 (chk ml p)) ∧ Below W.heap.size W w') := fun W hW =>
    check_any ml ap mp cp p W W.heap.size (Nat.le_refl _) (rd_ext hrp hW)
  by_cases hc : chk ml line = 0
  · have ha : achk line p = chk ml p := by rw [achk_ok (by rw [hln]; exact hc), hln]
    by_cases hc2 : chk ml p = 0
    · have hb : alongA line p = alongB line p := alongA_ok (by rw [ha]; exact hc2)
      obtain ⟨⟨h1, h6⟩, _, ho1⟩ := chk_zero hc
      obtain ⟨_, hl2, ho2⟩ := chk_zero hc2
      obtain rfl : ml = mp := by omega
      have QS : Hid (∀ W, Below w.heap.size w W → Calls Try.prog 84 #[.slice al ml cl, .slice ap ml cp] W fun e w' => e = .returned (.bool (alongB line p)) ∧ Below W.heap.size W w') := fun W hW =>
        single_any (by omega) (by omega) line p (isOrd_perm (by omega) ho1) (isOrd_perm (by omega) ho2) al cl ap cp W (rd_ext hrl hW) (rd_ext hrp hW)
      rw [ha, hb, hc2]
      rw [hc] at QL
      rw [hc2] at QP
      clear ha hb hc hc2 ho1 ho2 hrl hrp hln hlp hl2
      generalize alongB line p = r at *
      go_enter Try.func46, Try.ntmps46
      go_wp2_with fail
      refine QL.out.mono ?_
      rintro e w1 ⟨rfl, hb1⟩
      go_wp2_with fail
      refine (QP.out w1 hb1).mono ?_
      rintro e w2 ⟨rfl, hb2⟩
      have hb12 := ext_trans hb1 hb2
      go_wp2_with fail
      refine (QS.out w2 hb12).mono ?_
      rintro e w3 ⟨rfl, hb3⟩
      have hb13 := ext_trans hb12 hb3
      go_wp2
      go_ret2
      exact ⟨rfl, hb13⟩
    · have hb : alongA line p = false := alongA_bad (by rw [ha]; exact hc2)
      rw [ha, hb]
      rw [hc] at QL
      have hne : (chk ml p != 0) = true := by simpa using hc2
      clear ha hb hc hc2 hrl hrp hln hlp
      generalize chk ml p = r at *
      go_enter Try.func46, Try.ntmps46
      go_wp2_with fail
      refine QL.out.mono ?_
      rintro e w1 ⟨rfl, hb1⟩
      go_wp2_with fail
      refine (QP.out w1 hb1).mono ?_
      rintro e w2 ⟨rfl, hb2⟩
      have hb12 := ext_trans hb1 hb2
      go_wp2
      go_ret2
      exact ⟨rfl, hb12⟩
  · have ha : achk line p = chk ml line := by rw [achk_bad (by rw [hln]; exact hc), hln]
    have hb : alongA line p = false := alongA_bad (by rw [ha]; exact hc)
    rw [ha, hb]
    have hne : (chk ml line != 0) = true := by simpa using hc
    clear ha hb hc hrl hrp hln hlp QP
    generalize chk ml line = r at *
    go_enter Try.func46, Try.ntmps46
    go_wp2_with fail
    refine QL.out.mono ?_
    rintro e w1 ⟨rfl, hb1⟩
    go_wp2
    go_ret2
    exact ⟨rfl, hb1⟩

theorem all_take {V : List (List Int)} {P : List Int → Bool} {t : Nat} (h : t < V.length) : (V.take (t + 1)).all P = ((V.take t).all P && P (V.getD t [])) := by
  have hsn : V.take (t + 1) = V.take t ++ [V.getD t []] := by
    rw [List.take_succ_eq_append_getElem h, List.getD_eq_getElem?_getD, List.getElem?_eq_getElem h]; rfl
  rw [hsn, List.all_append, List.all_cons, List.all_nil, Bool.and_true]

set_option maxHeartbeats 1000000 in
set_option maxRecDepth 100000 in
theorem pAll : PAll := by
  intro al ml cl line a m c V w hL hT
  obtain ⟨hrl, hml, _⟩ := hL
  obtain ⟨B, hB, hr, hm, _⟩ := hT
  have hln : line.length = ml := hrl.1
  have QL := Lib.hid (check_any ml al ml cl line w w.heap.size (Nat.le_refl _) hrl)
  have hrw := hr.more hB
  obtain rfl := hr.1
  have QV : Hid (∀ W, Below w.heap.size w W → Calls Try.prog 72 #[.int .i64 ml, .slice a V.length c] W fun e w' => e = .returned (.int .i64 (vchk ml V)) ∧ Below W.heap.size W w') := fun W hW =>
    tcheck_any ml a V.length c V W W.heap.size (Nat.le_refl _) (rdr_ext hrw hW) hm
  by_cases hc : chk ml line = 0
  · have ha : lchk line V = vchk ml V := by rw [lchk_ok (by rw [hln]; exact hc), hln]
    by_cases hc2 : vchk ml V = 0
    · have hb : allA line V = V.all (alongB line) := allA_ok (by rw [ha]; exact hc2)
      obtain ⟨⟨h1, h6⟩, _, ho1⟩ := chk_zero hc
      have hvl := (vchk_zero hc2).2.1
      have hvp := vperm hc2
      have QS : Hid (∀ t, t < V.length → ∀ ap cp W, Below w.heap.size w W → Rd W W.heap.size ap ml (V.getD t []) → Calls Try.prog 84 #[.slice al ml cl, .slice ap ml cp] W fun e w' => e = .returned (.bool (alongB line (V.getD t []))) ∧ Below W.heap.size W w') := fun t ht ap cp W hW hrp => by
        have hmem : V.getD t [] ∈ V := by rw [List.getD_eq_getElem?_getD, List.getElem?_eq_getElem ht]; exact List.getElem_mem ht
        exact single_any (by omega) (by omega) line (V.getD t []) (isOrd_perm (by omega) ho1) (hvp _ hmem) al cl ap cp W (rd_ext hrl hW) hrp
      have HPL : Hid (∀ t, t < V.length → (V.getD t []).length = ml) := fun t ht => by
        have hmem : V.getD t [] ∈ V := by rw [List.getD_eq_getElem?_getD, List.getElem?_eq_getElem ht]; exact List.getElem_mem ht
        exact perm_len (hvp _ hmem)
      have HNX : Hid (∀ t, t < V.length → (V.take (t + 1)).all (alongB line) = ((V.take t).all (alongB line) && alongB line (V.getD t []))) := fun t ht => all_take ht
      have HNO : Hid (∀ t, t < V.length → alongB line (V.getD t []) = false → V.all (alongB line) = false) := fun t ht h => by
        have hmem : V.getD t [] ∈ V := by rw [List.getD_eq_getElem?_getD, List.getElem?_eq_getElem ht]; exact List.getElem_mem ht
        rw [List.all_eq_false]
        exact ⟨_, hmem, by rw [h]; simp⟩
      have HEND : Hid ((V.take V.length).all (alongB line) = true → V.all (alongB line) = true) := fun h => by
        rwa [List.take_of_length_le (Nat.le_refl _)] at h
      have HRW := Lib.hid hrw
      rw [ha, hb, hc2]
      rw [hc] at QL
      rw [hc2] at QV
      clear ha hb hc hc2 ho1 hrl hr hrw hln hvp
      generalize V.all (alongB line) = r at *
      go_enter Try.func85, Try.ntmps85
      go_wp2_with fail
      refine QL.out.mono ?_
      rintro e w1 ⟨rfl, hb1⟩
      go_wp2_with fail
      refine (QV.out w1 hb1).mono ?_
      rintro e w2 ⟨rfl, hb2⟩
      have hb12 := ext_trans hb1 hb2
      clear QL QV hb1 hb2
      go_wp2_with fail
      go_loopw [27] (fun iv wr => ∃ t : Nat, t ≤ V.length ∧ iv = .int .i64 t ∧ (V.take t).all (alongB line) = true ∧ Below w.heap.size w wr) (fun iv _ => V.length - (intOf iv).toNat)
      case atStart => exact ⟨0, Nat.zero_le _, rfl, by simp, hb12⟩
      case round =>
        obtain ⟨t, ht, rfl, hall, hbel⟩ := hrel
        have HALL := Lib.hid hall
        have hz := hbel.size
        clear hall hb12
        by_cases htl : t < V.length
        · obtain ⟨b, o, a', c', rfl, hb, hcell, _, _, _, hrd⟩ := HRW.out.at_ htl
          have hct : wr.cell? ⟨b, o + t, none⟩ = some (.slice a' ml c') := by
            rw [(hbel.cell (by show b < _; omega)), hcell, HPL.out t htl]
          rw [HPL.out t htl] at hrd
          have QQ := Lib.hid (QS.out t htl a' c' wr hbel (rd_ext hrd hbel))
          have hnx := HNX.out t htl
          rw [HALL.out, Bool.true_and] at hnx
          have HX := Lib.hid hnx
          have HF := Lib.hid (HNO.out t htl)
          clear hcell hrd hnx
          generalize alongB line (V.getD t []) = q at *
          go_wp2_with fail
          refine QQ.out.mono ?_
          rintro e w4 ⟨rfl, hb4⟩
          have hbe := ext_trans hbel hb4
          clear QQ hb4 hbel hct
          cases q with
          | true =>
            go_wp2
            go_roundw
            case rel => exact ⟨t + 1, by omega, by go_num, HX.out, hbe⟩
            case measure => simp [intOf]; omega
          | false =>
            have hr0 : r = false := HF.out rfl
            subst hr0
            go_wp2
            go_ret2
            exact ⟨rfl, hbe⟩
        · obtain rfl : t = V.length := by omega
          have hr0 : r = true := HEND.out HALL.out
          subst hr0
          go_wp2
          go_ret2
          exact ⟨rfl, hbel⟩
    · have hb : allA line V = false := allA_bad (by rw [ha]; exact hc2)
      rw [ha, hb]
      rw [hc] at QL
      have hne : (vchk ml V != 0) = true := by simpa using hc2
      clear ha hb hc hc2 hrl hr hrw hln
      generalize vchk ml V = r at *
      go_enter Try.func85, Try.ntmps85
      go_wp2_with fail
      refine QL.out.mono ?_
      rintro e w1 ⟨rfl, hb1⟩
      go_wp2_with fail
      refine (QV.out w1 hb1).mono ?_
      rintro e w2 ⟨rfl, hb2⟩
      have hb12 := ext_trans hb1 hb2
      go_wp2
      go_ret2
      exact ⟨rfl, hb12⟩
  · have ha : lchk line V = chk ml line := by rw [lchk_bad (by rw [hln]; exact hc), hln]
    have hb : allA line V = false := allA_bad (by rw [ha]; exact hc)
    rw [ha, hb]
    have hne : (chk ml line != 0) = true := by simpa using hc
    clear ha hb hc hrl hr hrw hln QV
    generalize chk ml line = r at *
    go_enter Try.func85, Try.ntmps85
    go_wp2_with fail
    refine QL.out.mono ?_
    rintro e w1 ⟨rfl, hb1⟩
    go_wp2
    go_ret2
    exact ⟨rfl, hb1⟩
end Go.Proofs.Ythcaipnlgbnfkaa

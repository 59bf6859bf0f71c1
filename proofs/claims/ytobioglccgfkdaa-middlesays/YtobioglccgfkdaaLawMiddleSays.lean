/-
  plumelaw.MiddleSays returns true, for every int, every slice of slices of ints and every slice of ints, if package middle keeps its contracts; nothing that was there is written.
-/
import Derived.Test.YtobioglccgfkdaaCBestOf
import Derived.Test.YtobioglccgfkdaaCVoteErr
import Derived.Test.YtobioglccgfkdaaCOrderErr
import Derived.Test.YtobioglccgfkdaaCEqual
namespace Go.Proofs.Ytobioglccgfkdaa
open Go.RowKit Fm
set_option linter.unusedVariables false

theorem chk_permM {n : Nat} {V : List (List Int)} (h : vchk n V = 0) : ∀ p ∈ V, p.Perm (sides n) := fun p hp => by
  obtain ⟨h1, h2, h3⟩ := chk_zero ((vchk_zero h).2.2 p hp)
  exact isOrd_perm (by omega) h3

set_option maxHeartbeats 4000000 in
set_option maxRecDepth 100000 in
theorem middleSays_is (mF : MFar) (mE : MBestE) (mB : MBest) (n0 : Int) (hn0 : -9223372036854775808 ≤ n0) (hn1 : n0 ≤ 9223372036854775807) (v : Value) (V : List (List Int)) {w : World} (f : IsRows w v V) (vp : Value) (p : List Int) (fp : IsInts w vp p) :
    Calls Try.prog 3 #[.int .i64 n0, v, vp] w fun e w' => e = .returned (.bool true) ∧ Below w.heap.size w w' := by
  obtain ⟨a, c, rfl, hr, hall, _, _, _, h24⟩ := f
  obtain ⟨ap, cp, rfl, hrp, _, hpc, _, _, hp8⟩ := fp
  have TI : Hid (∀ W, Below w.heap.size w W → TabIn W a V.length V) := fun W hW => ⟨W.heap.size, Nat.le_refl _, rdr_ext hr hW, by omega, fun l hl => by have := (hall l hl).2; omega⟩
  have HR := Lib.hid hr
  have HRP := Lib.hid hrp
  have H8 : Hid (∀ l ∈ V, l.length * 8 ≤ 140737488355328) := fun l hl => (hall l hl).2
  have QF := Lib.hid (mF n0 a V.length c V ap p.length cp p w (TI.out w (Below.refl _ w)) hrp (by omega) hpc)
  clear hpc
  have MB : Hid MBest := mB
  have ME : Hid MBestE := mE
  have HFC : Hid (fchk n0 V p = if vchk n0 V ≠ 0 then vchk n0 V else if chk n0 p ≠ 0 then 3 else 0) := rfl
  have HFA : Hid (farA n0 V p = if fchk n0 V p = 0 then (farT V p : Int) else 0) := rfl
  clear hr hrp hall mF mE mB
  generalize farA n0 V p = fa at *
  generalize fchk n0 V p = fc at *
  by_cases hv : vchk n0 V = 0
  · rw [if_neg (by simpa using hv)] at HFC
    have hn := (vchk_zero hv).1
    obtain ⟨n, rfl⟩ : ∃ n : Nat, n0 = n := ⟨n0.toNat, by omega⟩
    have h1 : 1 ≤ n := by omega
    have h6 : n ≤ 6 := by omega
    have h30 : V.length ≤ 30 := (vchk_zero hv).2.1
    have HP := Lib.hid (chk_permM hv)
    have HVZ := Lib.hid hv
    have hlb := least_bd h1 h6 h30
    obtain ⟨hbp, _, _⟩ := best_all h1 h6 V
    have hbl : (bestL n V).length = n := by have := hbp.length_eq; rwa [sides_len] at this
    have HBL := Lib.hid hbl
    clear hv hn hbp hbl
    go_enter Try.func3, Try.ntmps3
    go_wp2_with fail
    refine QF.out.mono ?_
    rintro e w1 ⟨rfl, hb1⟩
    clear QF
    have QB := Lib.hid (MB.out n a V.length c V w1 (TI.out w1 hb1) HVZ.out)
    have QBO : Hid (∀ W, Below w.heap.size w W → Calls Try.prog 10 #[.int .i64 n, .slice a V.length c] W (BestOut n V W)) := fun W hW => bestOf_any h1 h6 HP.out h30 a c W (rdr_ext HR.out hW)
    have QV : Hid (∀ W, Below w.heap.size w W → Calls Try.prog 9 #[.int .i64 n, .slice a V.length c] W fun e w' => e = .returned (.int .i64 0) ∧ Below W.heap.size W w') := fun W hW => by
      have q := voteErr_any n a V.length c V W W.heap.size (Nat.le_refl _) (rdr_ext HR.out hW) H8.out
      rw [HVZ.out] at q
      exact q
    unfold BestOut at QBO
    generalize leastN n V = ln at *
    generalize bestL n V = bl at *
    go_wp2_with fail
    refine QB.out.mono ?_
    rintro e w2 ⟨a2, c2, rfl, _, _, r2, hb2⟩
    have hb02 := ext_trans hb1 hb2
    clear QB hb1 hb2
    go_wp2_with fail
    refine (QV.out w2 hb02).mono ?_
    rintro e w3 ⟨rfl, hb3⟩
    have hb03 := ext_trans hb02 hb3
    have r3 := rd_ext r2 hb3
    clear QV hb02 hb3 r2
    go_wp2_with fail
    refine (QBO.out w3 hb03).mono ?_
    rintro e w4 ⟨v4, rfl, o4, hb4⟩
    obtain ⟨a4, c4, rfl, _, _⟩ := own_slice o4
    have hb04 := ext_trans hb03 hb4
    have QE := Lib.hid (equal_ext bl bl a2 a4 bl.length c2 n c4 w4 (rd_ext r3 hb4) (Rd.of_own o4) (by rw [HBL.out]; omega) (by omega))
    rw [show decide (bl = bl) = true by simp] at QE
    clear QBO hb03 hb4 r3 o4
    go_wp2_with fail
    refine QE.out.mono ?_
    rintro e w5 ⟨rfl, hb5⟩
    have hb05 := ext_trans hb04 hb5
    clear QE hb04 hb5
    have QO := Lib.hid (orderErr_any n ap p.length cp p w5 w5.heap.size (Nat.le_refl _) (rd_ext HRP.out hb05) (by omega))
    go_wp2_with fail
    refine QO.out.mono ?_
    rintro e w6 ⟨rfl, hb6⟩
    have hb06 := ext_trans hb05 hb6
    clear QO hb05 hb6
    by_cases hc : chk n p = 0
    · rw [if_neg (by simpa using hc)] at HFC
      have hpp : p.Perm (sides n) := isOrd_perm (by have := (chk_zero hc).2.1; omega) (chk_zero hc).2.2
      have hpl : p.length = n := by have := hpp.length_eq; rwa [sides_len] at this
      rw [hc]
      have hfc := HFC.out
      rw [hfc, if_pos rfl] at HFA
      have hfa := HFA.out
      rw [hfc, hfa]
      have QX := Lib.hid (farOf_any h1 h6 HP.out h30 hpp a ap c cp w6 (rdr_ext HR.out hb06) (by have := rd_ext HRP.out hb06; rwa [hpl] at this))
      rw [← hpl] at QX
      have hfl := farT_le h6 V hpl
      clear hfc hfa hc hpp hpl HFC HFA
      generalize farT V p = ft at *
      go_wp2_with fail
      refine QX.out.mono ?_
      rintro e w7 ⟨rfl, hb7⟩
      have hbe := ext_trans hb06 hb7
      clear QX hb7 hb06
      go_wp2
      go_ret
      exact ⟨rfl, hbe⟩
    · rw [if_pos hc] at HFC
      have hfc := HFC.out
      rw [hfc, if_neg (by omega)] at HFA
      have hfa := HFA.out
      rw [hfc, hfa]
      have hcb : (chk n p != 0) = true := by simpa using hc
      clear hfc hfa hc HFC HFA
      generalize chk n p = cc at *
      go_wp2
      go_ret
      exact ⟨rfl, hb06⟩
  · rw [if_pos hv] at HFC
    have hfc := HFC.out
    rw [hfc, if_neg hv] at HFA
    have hfa := HFA.out
    rw [hfc, hfa] at QF
    have HVN := Lib.hid hv
    have hvb : (vchk n0 V != 0) = true := by simpa using hv
    have hvv : (vchk n0 V == vchk n0 V) = true := by simp
    have QB : Hid (∀ W, Below w.heap.size w W → Calls Try.prog 8 #[.int .i64 n0, .slice a V.length c] W (ErrOut3 (vchk n0 V) W)) := fun W hW => ME.out n0 a V.length c V W (TI.out W hW) HVN.out
    have QV : Hid (∀ W, Below w.heap.size w W → Calls Try.prog 9 #[.int .i64 n0, .slice a V.length c] W fun e w' => e = .returned (.int .i64 (vchk n0 V)) ∧ Below W.heap.size W w') := fun W hW => voteErr_any n0 a V.length c V W W.heap.size (Nat.le_refl _) (rdr_ext HR.out hW) H8.out
    clear hv hfc hfa HFC HFA HVN
    generalize vchk n0 V = vr at *
    go_enter Try.func3, Try.ntmps3
    go_wp2_with fail
    refine QF.out.mono ?_
    rintro e w1 ⟨rfl, hb1⟩
    clear QF
    go_wp2_with fail
    refine (QB.out w1 hb1).mono ?_
    rintro e w2 ⟨a2, c2, rfl, hb2⟩
    have hb02 := ext_trans hb1 hb2
    clear QB hb1 hb2
    go_wp2_with fail
    refine (QV.out w2 hb02).mono ?_
    rintro e w3 ⟨rfl, hb3⟩
    have hb03 := ext_trans hb02 hb3
    clear QV hb02 hb3
    go_wp2
    go_ret
    exact ⟨rfl, hb03⟩
end Go.Proofs.Ytobioglccgfkdaa

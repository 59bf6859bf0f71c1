/-
  plumeref.WinnersOf at votes and a rule from 1 to 5 returns the winners, in a row of its own; nothing that was there is written.
-/
import Derived.Test.YtbpenheomiejfaaCRoundsOf
import Derived.Test.YtbpenheomiejfaaPureB
import Derived.Test.YtbpenheomiejfaaCFirstsOf
import Derived.Test.YtbpenheomiejfaaCDuelsOf
import Derived.Test.YtbpenheomiejfaaCWinsOf
namespace Go.Proofs.Ytbpenheomiejfaa
open Go.RowKit Fm
set_option linter.unusedVariables false

/-- The winners, in a row of the call's own. -/
def WinOut (l : List Int) (w : World) (e : Ending) (w' : World) : Prop := ∃ v, e = .returned v ∧ w'.ownsRow w.heap.size 3 1 v l.length (I l) ∧ Below w.heap.size w w'

set_option maxHeartbeats 4000000 in
set_option maxRecDepth 100000 in
theorem winnersOf_any (rule : Int) (hr1 : 1 ≤ rule) (hr5 : rule ≤ 5) {n : Nat} (h1 : 1 ≤ n) (h6 : n ≤ 6) (a : Option Addr) (c : Nat) (V : List (List Int)) (w : World) (B : Nat) (hB : B ≤ w.heap.size) (hr : RdR w B a V.length V) (hV : V.length ≤ 30) (hp : ∀ p ∈ V, p.Perm (sides n)) :
    Calls Try.prog 14 #[.int .i64 rule, .int .i64 n, .slice a V.length c] w (WinOut (winL rule n V) w) := by
  have HR := Lib.hid hr
  have HP := Lib.hid hp
  clear hr hp
  obtain ⟨res, hres⟩ : ∃ res, winL rule n V = res := ⟨_, rfl⟩
  rw [hres]
  have HRES := Lib.hid hres
  clear hres
  go_enter Try.func14, Try.ntmps14
  go_wp2_with fail
  refine (firstsOf_any h1 h6 a c V w B hB HR.out hV HP.out).mono ?_
  rintro e w1 ⟨_, _, rfl, ga, gb, rfl, rfl, hne, oa, ob, hb1⟩
  go_wp2_with fail
  refine (duelsOf_any h1 h6 a c V w1 B (Nat.le_trans hB hb1.size) (HR.out.below hb1 hB) hV HP.out).mono ?_
  rintro e w2 ⟨rfl, mt, hb2⟩
  have hb02 := ext_trans hb1 hb2
  have rm := mt.rd (duelsM_len n V)
  go_wp2_with fail
  refine (winsOf_any h1 (by omega) (some ⟨w1.heap.size, 0, none⟩) n (duelsM n V) w2 w2.heap.size (Nat.le_refl _) rm (fun l hl => duelsM_rows hl) (ent_duels_bd n V hV)).mono ?_
  rintro e w3 ⟨_, _, rfl, gc, gd, rfl, rfl, hne2, oc, od, hb3⟩
  have hb03 := ext_trans hb02 hb3
  have RA := Lib.hid (rd_ext (rd_ext (Rd.of_own oa) hb2) hb3)
  have RB := Lib.hid (rd_ext (rd_ext (Rd.of_own ob) hb2) hb3)
  have RC := Lib.hid (Rd.of_own oc)
  have OD := Lib.hid (own_mono od hb02.size)
  clear oa ob oc od mt rm hb1 hb2 hb3 hb02
  by_cases e1 : rule = 1
  · subst e1
    have HX : Hid (greatest (firstsL n V) = res) := by show _ = _; rw [← HRES.out]; rfl
    go_wp2_with fail
    refine (greatest_any (firstsL n V) (some ⟨ga, 0, none⟩) n n w3 w3.heap.size (Nat.le_refl _) (by omega) (by omega) RA.out).mono ?_
    rintro e w4 ⟨v4, rfl, o4, hb4⟩
    rw [HX.out] at o4
    have o5 := own_mono o4 hb03.size
    have hbe := ext_trans hb03 hb4
    clear o4 hb4 hb03
    go_wp2
    go_ret
    exact ⟨v4, rfl, o5, hbe⟩
  · by_cases e2 : rule = 2
    · subst e2
      have HX : Hid (greatest (pointsL n V) = res) := by show _ = _; rw [← HRES.out]; rfl
      go_wp2_with fail
      refine (greatest_any (pointsL n V) (some ⟨gb, 0, none⟩) n n w3 w3.heap.size (Nat.le_refl _) (by omega) (by omega) RB.out).mono ?_
      rintro e w4 ⟨v4, rfl, o4, hb4⟩
      rw [HX.out] at o4
      have o5 := own_mono o4 hb03.size
      have hbe := ext_trans hb03 hb4
      clear o4 hb4 hb03
      go_wp2
      go_ret
      exact ⟨v4, rfl, o5, hbe⟩
    · by_cases e3 : rule = 3
      · subst e3
        have HX : Hid (greatest (winsL n (duelsM n V)) = res) := by show _ = _; rw [← HRES.out]; rfl
        go_wp2_with fail
        refine (greatest_any (winsL n (duelsM n V)) (some ⟨gc, 0, none⟩) n n w3 w3.heap.size (Nat.le_refl _) (by omega) (by omega) RC.out).mono ?_
        rintro e w4 ⟨v4, rfl, o4, hb4⟩
        rw [HX.out] at o4
        have o5 := own_mono o4 hb03.size
        have hbe := ext_trans hb03 hb4
        clear o4 hb4 hb03
        go_wp2
        go_ret
        exact ⟨v4, rfl, o5, hbe⟩
      · by_cases e4 : rule = 4
        · subst e4
          obtain ⟨D, hD⟩ : ∃ D, worstL n (duelsM n V) = D := ⟨_, rfl⟩
          have HX : Hid (greatest (D.map fun x => -x) = res) := by show _ = _; rw [← hD, ← HRES.out]; rfl
          have HDB : Hid (∀ i, i < n → 0 ≤ D.getD i 0 ∧ D.getD i 0 ≤ 30) := fun i hi => by
            rw [← hD]
            unfold worstL
            rw [map_sides_getD n _ hi]
            exact ⟨worstTo_nonneg _ _ _, worstTo_le30 (ent_duels_bd n V hV) _ _⟩
          rw [hD] at OD
          have HDL := Lib.hid (own_len OD.out)
          have od0 := OD.out
          rw [← negTo_zero D] at od0
          clear hD OD RA RB RC HRES
          go_wp2_with fail
          go_loopw [42] (fun iv wr => ∃ k : Nat, k ≤ n ∧ iv = .int .i64 k ∧ wr.ownsRow w.heap.size 3 1 (.slice (some ⟨gd, 0, none⟩) n n) n (I (negTo D k)) ∧ Below w.heap.size w wr) (fun iv _ => n - (intOf iv).toNat)
          case atStart => exact ⟨0, Nat.zero_le _, rfl, od0, hb03⟩
          case round =>
            clear od0 hb03
            obtain ⟨k, hk, rfl, od, hbel⟩ := hrel
            by_cases hkn : k < n
            · have hkd : k < D.length := by rw [HDL.out]; exact hkn
              have ck := own_cell od k hkn
              have fk := od.frozenAt k
              rw [negTo_at D hkd] at ck
              have hbd := HDB.out k hkn
              obtain ⟨s1, g1⟩ := od.stored k (.int .i64 (-(D.getD k 0)))
              have es : (I (negTo D k)).set k (.int .i64 (-(D.getD k 0))) = I (negTo D (k + 1)) := by rw [← negTo_set D hkd]; unfold I; rw [List.map_set]
              rw [es] at s1
              have hbe := hbel.grown g1 hbel.size (fun y hy => by injection hy with hy; subst hy; exact (od.lt gd rfl).1)
              clear es g1 od hbel
              generalize D.getD k 0 = x at *
              go_wp2
              go_roundw
              case rel => exact ⟨k + 1, by omega, by go_num, s1, hbe⟩
              case measure => simp [intOf]; omega
            · obtain rfl : k = n := by omega
              have e5 : negTo D k = D.map fun x => -x := by rw [← negTo_end D, HDL.out]
              rw [e5] at od
              have RD := Lib.hid (Rd.of_own od)
              clear e5 od
              go_wp2_with fail
              refine (greatest_any (D.map fun x => -x) (some ⟨gd, 0, none⟩) k k wr wr.heap.size (Nat.le_refl _) (by omega) (by omega) RD.out).mono ?_
              rintro e w4 ⟨v4, rfl, o4, hb4⟩
              rw [HX.out] at o4
              have o5 := own_mono o4 hbel.size
              have hbe := ext_trans hbel hb4
              clear o4 hb4 hbel
              go_wp2
              go_ret
              exact ⟨v4, rfl, o5, hbe⟩
        · have e5 : rule = 5 := by omega
          subst e5
          have HX : Hid ([lastOf n V] = res) := by show _ = _; rw [← HRES.out]; rfl
          go_wp2_with fail
          refine (roundsOf_any h1 h6 a c V w3 B (Nat.le_trans hB hb03.size) (HR.out.below hb03 hB) hV HP.out).mono ?_
          rintro e w4 ⟨rfl, hb4⟩
          have hbe := ext_trans hb03 hb4
          have o4 := own_mono (own_lit w4 3 [lastOf n V] #[.int .i64 (lastOf n V)] rfl (by unfold maxLen; simp)) hbe.size
          rw [HX.out] at o4
          have hrl : res.length = 1 := by rw [← HX.out]; rfl
          have HRL := Lib.hid hrl
          have hbe2 := hbe.alloc hbe.size (.cells #[.int .i64 (lastOf n V)] 3)
          clear hb4 hb03 hbe hrl HX
          generalize lastOf n V = y at *
          go_wp2
          go_ret
          refine ⟨_, rfl, ?_, hbe2⟩
          rw [HRL.out] at o4 ⊢
          exact o4
end Go.Proofs.Ytbpenheomiejfaa

/-
  plumelaw.TallySays returns true, for every int and every slice of slices of ints, if package tally keeps its contracts; nothing that was there is written.
-/
import Derived.Test.YtammnnhdhdeogaaTallyC
import Derived.Test.YtammnnhdhdeogaaCVoteErr
import Derived.Test.YtammnnhdhdeogaaCDuelsOf
import Derived.Test.YtammnnhdhdeogaaCFirstsOf
import Derived.Test.YtammnnhdhdeogaaCWinsOf
import Derived.Test.YtammnnhdhdeogaaCRows
import Derived.Test.YtammnnhdhdeogaaCIndex
namespace Go.Proofs.Ytammnnhdhdeogaa
open Go.RowKit Fm
set_option linter.unusedVariables false

theorem votes_perm {n : Nat} {V : List (List Int)} (h : vchk n V = 0) : ∀ p ∈ V, p.Perm (sides n) := fun p hp => by
  obtain ⟨h1, h2, h3⟩ := chk_zero ((vchk_zero h).2.2 p hp)
  exact isOrd_perm (by omega) h3

theorem idx_first {p : List Int} {k : Nat} (hk : k < p.length) {x : Int} (hx : p.getD k 0 = x) (hne : ∀ j, j < k → p.getD j 0 ≠ x) : Lib.idxOf p x = k := by
  have h := Lib.idxOf_hit p p.length k x hk (Nat.le_refl _) hx hne
  rw [List.take_of_length_le (Nat.le_refl _)] at h
  exact h
theorem wins_idx {n : Nat} {V : List (List Int)} {x : Nat} (hb : Beats n V x) : Lib.idxOf (winsL n (duelsM n V)) ((n : Int) - 1) = x := by
  have hl : (winsL n (duelsM n V)).length = n := by simp [winsL, sides_len]
  refine idx_first (by rw [hl]; exact hb.1) ?_ (fun j hj h => ?_)
  · unfold winsL; rw [map_sides_getD n _ hb.1]; exact (win_beats hb.1).2 hb
  · have hjn : j < n := by have := hb.1; omega
    unfold winsL at h
    rw [map_sides_getD n _ hjn] at h
    have := beats_one ((win_beats hjn).1 h) hb
    omega
theorem wins_none {n : Nat} {V : List (List Int)} (hb : ∀ x, ¬ Beats n V x) : Lib.idxOf (winsL n (duelsM n V)) ((n : Int) - 1) = -1 := by
  refine idx_miss (fun h => ?_)
  unfold winsL at h
  rw [List.mem_map] at h
  obtain ⟨z, hz, hw⟩ := h
  have hz := mem_sides.1 hz
  have := (win_beats (V := V) (show z.toNat < n by omega)).1 hw
  exact hb _ this

set_option maxHeartbeats 4000000 in
set_option maxRecDepth 100000 in
theorem tallySays_is (C : TallyC) (n0 : Int) (hn0 : -9223372036854775808 ≤ n0) (hn1 : n0 ≤ 9223372036854775807) (v : Value) (V : List (List Int)) {w : World} (f : IsRows w v V) :
    Calls Try.prog 3 #[.int .i64 n0, v] w fun e w' => e = .returned (.bool true) ∧ Below w.heap.size w w' := by
  obtain ⟨a, c, rfl, hr, hall, hlc, _, hcm, h24⟩ := f
  have HR := Lib.hid hr
  have H8 := Lib.hid (fun l hl => (hall l hl).2)
  have hm : V.length ≤ 17592186044416 := by omega
  have HC := Lib.hid C
  clear hr hall C
  by_cases hw : vchk n0 V = 0
  · obtain ⟨hn, hV30, _⟩ := vchk_zero hw
    obtain ⟨n, rfl⟩ : ∃ n : Nat, n0 = n := ⟨n0.toNat, by omega⟩
    have hN1 : 1 ≤ n := by omega
    have hN6 : n ≤ 6 := by omega
    have HW := Lib.hid hw
    have HP := Lib.hid (votes_perm hw)
    clear hw hn
    go_enter Try.func3, Try.ntmps3
    go_wp2_with fail
    refine (HC.out.duels n a V.length c V w w.heap.size (Nat.le_refl _) HR.out hm HW.out).mono ?_
    rintro e w1 ⟨a1, c1, rfl, _, _, rM, hb1⟩
    rw [duelsM_len] at rM ⊢
    have z1 := hb1.size
    go_wp2_with fail
    refine (HC.out.firsts n a V.length c V w1 w.heap.size z1 (HR.out.below hb1 (Nat.le_refl _)) hm HW.out).mono ?_
    rintro e w2 ⟨a2, c2, rfl, _, _, rF, hb2⟩
    have hfl : (firstsL n V).length = n := by simp [firstsL, sides_len]
    rw [hfl] at rF ⊢
    have z2 := hb2.size
    have hb02 := hb1.trans (hb2.mono z1)
    go_wp2_with fail
    refine (HC.out.points n a V.length c V w2 w.heap.size (by omega) (HR.out.below hb02 (Nat.le_refl _)) hm HW.out).mono ?_
    rintro e w3 ⟨a3, c3, rfl, _, _, rP, hb3⟩
    have hpl : (pointsL n V).length = n := by simp [pointsL, sides_len]
    rw [hpl] at rP ⊢
    have z3 := hb3.size
    have hb03 := hb02.trans (hb3.mono (by omega))
    have RM := Lib.hid ((rM.below hb2 (Nat.le_refl _)).below hb3 z2 |>.more (B' := w3.heap.size) (by omega))
    have RF := Lib.hid ((rF.below hb3 (Nat.le_refl _)).more (B' := w3.heap.size) (by omega))
    have RP := Lib.hid rP
    clear rM rF rP hb1 hb2 hb3 hb02 hfl hpl
    obtain ⟨bx, be, hbc, hbt⟩ : ∃ bx be : Int, (∀ W : World, Below w.heap.size w W → Calls Try.prog 11 #[.int .i64 n, .slice a V.length c] W fun e w' => e = .returned (.tuple #[.int .i64 bx, .int .i64 be]) ∧ Below W.heap.size W w') ∧
        ((∃ x : Nat, Beats n V x ∧ bx = x ∧ be = 0) ∨ ((∀ x, ¬ Beats n V x) ∧ bx = 0 ∧ be = 4)) := by
      by_cases hex : ∃ x, Beats n V x
      · obtain ⟨x, hx⟩ := hex
        exact ⟨x, 0, fun W hW => HC.out.beaterY n a V.length c V W w.heap.size x hW.size (HR.out.below hW (Nat.le_refl _)) hm HW.out hx, .inl ⟨x, hx, rfl, rfl⟩⟩
      · have hno : ∀ x, ¬ Beats n V x := fun x hx => hex ⟨x, hx⟩
        exact ⟨0, 4, fun W hW => HC.out.beaterN n a V.length c V W w.heap.size hW.size (HR.out.below hW (Nat.le_refl _)) hm HW.out hno, .inr ⟨hno, rfl, rfl⟩⟩
    have HBC := Lib.hid hbc
    have HBT := Lib.hid hbt
    clear hbc hbt
    go_wp2_with fail
    refine (HBC.out w3 hb03).mono ?_
    rintro e w4 ⟨rfl, hb4⟩
    have z4 := hb4.size
    have hb04 := hb03.trans (hb4.mono (by omega))
    go_wp2_with fail
    refine (voteErr_any n a V.length c V w4 w.heap.size (by omega) (HR.out.below hb04 (Nat.le_refl _)) H8.out).mono ?_
    rintro e w5 ⟨rfl, hb5⟩
    have z5 := hb5.size
    have hb05 := hb04.trans (hb5.mono (by omega))
    rw [HW.out]
    go_wp2_with fail
    refine (HC.out.check n a V.length c V w5 w.heap.size (by omega) (HR.out.below hb05 (Nat.le_refl _)) hm).mono ?_
    rintro e w6 ⟨rfl, hb6⟩
    have z6 := hb6.size
    have hb06 := hb05.trans (hb6.mono (by omega))
    have hb36 : Below w3.heap.size w3 w6 := (hb4.trans (hb5.mono (by omega))).trans (hb6.mono (by omega))
    rw [HW.out]
    clear hb4 hb5 hb6 hb04 hb05 HBC
    go_wp2_with fail
    refine (firstsOf_any hN1 hN6 a c V w6 w.heap.size (by omega) (HR.out.below hb06 (Nat.le_refl _)) hV30 HP.out).mono ?_
    rintro e w7 ⟨_, _, rfl, ga, gb, rfl, rfl, hne, oa, ob, hb7⟩
    have z7 := hb7.size
    have hb07 := hb06.trans (hb7.mono (by omega))
    have hb37 := hb36.trans (hb7.mono (by omega))
    go_wp2_with fail
    refine (duelsOf_any hN1 hN6 a c V w7 w.heap.size (by omega) (HR.out.below hb07 (Nat.le_refl _)) hV30 HP.out).mono ?_
    rintro e w8 ⟨rfl, mt, hb8⟩
    have z8 := hb8.size
    have hb08 := hb07.trans (hb8.mono (by omega))
    have hb38 := hb37.trans (hb8.mono (by omega))
    have ra := ((Rd.of_own oa).below hb8 (Nat.le_refl _)).more (B' := w8.heap.size) z8
    have rb := ((Rd.of_own ob).below hb8 (Nat.le_refl _)).more (B' := w8.heap.size) z8
    have rm := mt.rd (duelsM_len n V)
    have RA := Lib.hid ra
    have RB := Lib.hid rb
    have RMM := Lib.hid rm
    have HROWS := Lib.hid (rows_rd (duelsM n V) a1 (some ⟨w7.heap.size, 0, none⟩) n c1 n w8 w8.heap.size (by omega) (fun l hl => by rw [duelsM_rows hl]; omega) ((RM.out.below hb38 (Nat.le_refl _)).more (B' := w8.heap.size) (by omega)) rm)
    clear ra rb rm oa ob mt hb7 hb8 hb06 hb36 hb37 hb07
    go_wp2_with fail
    refine HROWS.out.mono ?_
    rintro e w9 ⟨rfl, k9, rfl⟩
    go_wp2_with fail
    refine (equal_any (firstsL n V) (firstsL n V) a2 (some ⟨ga, 0, none⟩) n c2 n n _ w8.heap.size (((RF.out.below hb38 (Nat.le_refl _)).more (B' := w8.heap.size) (by omega)).drewN k9) (RA.out.drewN k9) (by omega) (by omega)).mono ?_
    rintro e w10 ⟨rfl, k10, rfl⟩
    go_wp2_with fail
    refine (equal_any (pointsL n V) (pointsL n V) a3 (some ⟨gb, 0, none⟩) n c3 n n _ w8.heap.size (((RP.out.below hb38 (Nat.le_refl _)).more (B' := w8.heap.size) (by omega)).drewN _) (RB.out.drewN _) (by omega) (by omega)).mono ?_
    rintro e w11 ⟨rfl, k11, rfl⟩
    go_wp2_with fail
    refine (winsOf_any hN1 (by omega) (some ⟨w7.heap.size, 0, none⟩) n (duelsM n V) _ w8.heap.size (by simp) (RMM.out.drewN _) (fun l hl => duelsM_rows hl) (ent_duels_bd n V hV30)).mono ?_
    rintro e w12 ⟨_, _, rfl, gc, gd, rfl, rfl, hne2, oc, od, hb12⟩
    have z12 := hb12.size
    have rc := Lib.hid (Rd.of_own oc)
    have hb0e : Below w.heap.size w w12 := (below_drewN hb08 _).trans (hb12.mono (by have := hb08.size; simp; omega))
    clear oc od hb12 HROWS
    go_wp2_with fail
    refine (index_any (winsL n (duelsM n V)) ((n : Int) - 1) (some ⟨gc, 0, none⟩) n n w12 w12.heap.size rc.out (by omega)).mono ?_
    rintro e w' ⟨rfl, rfl⟩
    rcases HBT.out with ⟨x, hx, hbx, hbe⟩ | ⟨hno, hbx, hbe⟩
    · rw [wins_idx hx]
      subst hbx; subst hbe
      have hxn := hx.1
      clear hx HBT
      go_wp2
      go_ret
      exact ⟨rfl, hb0e⟩
    · rw [wins_none hno]
      subst hbx; subst hbe
      clear hno HBT
      go_wp2
      go_ret
      exact ⟨rfl, hb0e⟩
  · have hne : (vchk n0 V != 0) = true := by simpa using hw
    go_enter Try.func3, Try.ntmps3
    go_wp2_with fail
    refine (HC.out.duelsE n0 a V.length c V w w.heap.size (Nat.le_refl _) HR.out hm hw).mono ?_
    rintro e w1 ⟨a1, c1, rfl, hb1⟩
    have z1 := hb1.size
    go_wp2_with fail
    refine (HC.out.firstsE n0 a V.length c V w1 w.heap.size z1 (HR.out.below hb1 (Nat.le_refl _)) hm hw).mono ?_
    rintro e w2 ⟨a2, c2, rfl, hb2⟩
    have z2 := hb2.size
    have hb02 := hb1.trans (hb2.mono z1)
    go_wp2_with fail
    refine (HC.out.pointsE n0 a V.length c V w2 w.heap.size (by omega) (HR.out.below hb02 (Nat.le_refl _)) hm hw).mono ?_
    rintro e w3 ⟨a3, c3, rfl, hb3⟩
    have z3 := hb3.size
    have hb03 := hb02.trans (hb3.mono (by omega))
    go_wp2_with fail
    refine (HC.out.beaterE n0 a V.length c V w3 w.heap.size (by omega) (HR.out.below hb03 (Nat.le_refl _)) hm hw).mono ?_
    rintro e w4 ⟨rfl, hb4⟩
    have z4 := hb4.size
    have hb04 := hb03.trans (hb4.mono (by omega))
    go_wp2_with fail
    refine (voteErr_any n0 a V.length c V w4 w.heap.size (by omega) (HR.out.below hb04 (Nat.le_refl _)) H8.out).mono ?_
    rintro e w5 ⟨rfl, hb5⟩
    have z5 := hb5.size
    have hb05 := hb04.trans (hb5.mono (by omega))
    go_wp2_with fail
    refine (HC.out.check n0 a V.length c V w5 w.heap.size (by omega) (HR.out.below hb05 (Nat.le_refl _)) hm).mono ?_
    rintro e w6 ⟨rfl, hb6⟩
    have hb06 := hb05.trans (hb6.mono (by omega))
    clear hb1 hb2 hb3 hb4 hb5 hb6 hb02 hb03 hb04 hb05 hw HC
    generalize vchk n0 V = cc at *
    go_wp2
    go_ret
    exact ⟨rfl, hb06⟩
end Go.Proofs.Ytammnnhdhdeogaa

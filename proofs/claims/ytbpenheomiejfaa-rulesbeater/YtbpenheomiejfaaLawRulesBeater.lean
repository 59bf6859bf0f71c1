/-
  plumekeep.RulesBeater returns true, for every int and every slice of slices of ints, if packages rules and tally keep their contracts; nothing that was there is written.
-/
import Derived.Test.YtbpenheomiejfaaLawRulesLoser
import Derived.BigRegion
import Derived.RegionTactic
import Derived.Deep.RegionHeld3
import Derived.Deep.DeepCutAuto
namespace Go.Proofs.Ytbpenheomiejfaa
open Go.RowKit Fm
set_option linter.unusedVariables false

theorem min_any (p : List Int) (a : Option Addr) (n c : Nat) (w : World) (B : Nat) (h0 : 0 < n) (hp : Rd w B a n p) (hn : n ≤ 9223372036854775807) :
    Calls Try.prog 28 #[.slice a n c] w fun e w' => e = .returned (.int .i64 (Lib.minOf p)) ∧ w = w' := by
  have hl := hp.1
  obtain ⟨b, o, rfl, _, hc⟩ := hp.2 h0
  have h := Try.slices_Min_int b o n c p w h0 (by omega) hn (fun j hj => hc j (by omega))
  rw [List.take_of_length_le (by omega)] at h
  exact h.mono fun e w' ⟨h1, h2⟩ => ⟨h1, h2.symm⟩
theorem minOf_le {p : List Int} {k : Nat} (hk : k < p.length) : Lib.minOf p ≤ p.getD k 0 := by
  have key : ∀ (l : List Int) (a : Int), (l.foldl min a ≤ a) ∧ ∀ x ∈ l, l.foldl min a ≤ x := by
    intro l
    induction l with
    | nil => intro a; exact ⟨Int.le_refl _, fun x hx => by cases hx⟩
    | cons b l ih =>
      intro a
      simp only [List.foldl_cons]
      have h := ih (min a b)
      refine ⟨by have := h.1; omega, fun x hx => ?_⟩
      rcases List.mem_cons.1 hx with rfl | hx
      · have := h.1; omega
      · exact h.2 x hx
  exact (key p _).2 _ (getD_mem p k hk)

set_option maxHeartbeats 4000000 in
set_option maxRecDepth 100000 in
theorem rulesBeater_is (dW : RWin) (sS : RSole) (C : TallyC) (n0 : Int) (hn0 : -9223372036854775808 ≤ n0) (hn1 : n0 ≤ 9223372036854775807) (v : Value) (L : List (List Int)) {w : World} (f : IsRows w v L) :
    Calls Try.prog 6 #[.int .i64 n0, v] w fun e w' => e = .returned (.bool true) ∧ Below w.heap.size w w' := by
  obtain ⟨a, c, rfl, hr, hall, hlc, _, hcm, h24⟩ := f
  have HR := Lib.hid hr
  have HO : Hid (∀ l ∈ L, ∀ x ∈ l, Ok64 x) := fun l hl => (hall l hl).1
  have W0 : Hid (∀ W, Calls Try.prog 16 #[] W fun e w' => e = .returned (.bool true) ∧ Below W.heap.size W w') := fun W => winners0_any dW sS W
  have DW : Hid RWin := dW
  have HC := Lib.hid C
  clear hr hall dW sS C h24
  go_enter Try.func6, Try.ntmps6
  go_wp2_with fail
  refine (W0.out w).mono ?_
  rintro e w0 ⟨rfl, hb0⟩
  clear W0
  go_wp2_with fail
  refine (tallies_any HC.out w0).mono ?_
  rintro e w1 ⟨rfl, hb1'⟩
  have hb1 := ext_trans hb0 hb1'
  clear hb0 hb1'
  go_wp2_with fail
  refine (within_any n0 6 w1 hn0 hn1 (by omega) (by omega)).mono ?_
  rintro e w1' ⟨rfl, rfl⟩
  obtain ⟨n, hn⟩ : ∃ n : Nat, 1 + n0 % 6 = n := ⟨(1 + n0 % 6).toNat, by omega⟩
  have h1 : 1 ≤ n := by omega
  have h6 : n ≤ 6 := by omega
  have e6 : n0 % 6 = (n : Int) - 1 := by omega
  rw [e6]
  clear hn e6 hn0 hn1
  go_wp2_with fail
  rw [show 1 + ((n : Int) - 1) = n by omega]
  refine (votesOf_any n a L.length c L w1 (rdr_ext HR.out hb1) hlc hcm h1 h6 HO.out).mono ?_
  rintro e w2 h
  obtain ⟨va, vc, rfl, _, _, hrV, hb2⟩ := h.use
  clear h
  have hb02 := ext_trans hb1 hb2
  have HV30 := votesOf_len n L
  have HP := Lib.hid (fun p (hp : p ∈ votesOf n L) => votesOf_mem hp)
  have HOK := Lib.hid (votesOf_v0 h1 h6 L)
  have RV := Lib.hid hrV
  generalize votesOf n L = V at *
  have hV30 : V.length ≤ 30 := by omega
  clear HV30 hrV hb1 hb2 HR HO hlc hcm
  obtain ⟨bx, be, hbc, hbt⟩ : ∃ bx be : Int, (Calls Try.prog 26 #[.int .i64 n, .slice va V.length vc] w2 fun e w' => e = .returned (.tuple #[.int .i64 bx, .int .i64 be]) ∧ Below w2.heap.size w2 w') ∧
      ((∃ x : Nat, Beats n V x ∧ bx = x ∧ be = 0) ∨ (be = 4)) := by
    by_cases hex : ∃ x, Beats n V x
    · obtain ⟨x, hx⟩ := hex
      exact ⟨x, 0, HC.out.beaterY n va V.length vc V w2 w2.heap.size x (Nat.le_refl _) RV.out (by omega) HOK.out hx, .inl ⟨x, hx, rfl, rfl⟩⟩
    · have hno : ∀ x, ¬ Beats n V x := fun x hx => hex ⟨x, hx⟩
      exact ⟨0, 4, HC.out.beaterN n va V.length vc V w2 w2.heap.size (Nat.le_refl _) RV.out (by omega) HOK.out hno, .inr rfl⟩
  have HBC := Lib.hid hbc
  have HBT := Lib.hid hbt
  clear hbc hbt
  go_wp2_with fail
  refine HBC.out.mono ?_
  rintro e w3 ⟨rfl, hb3⟩
  have hb03 := ext_trans hb02 hb3
  clear HBC hb02
  rcases HBT.out with ⟨x, hx, hbx, hbe⟩ | hbe
  · subst hbx; subst hbe
    have hxn := hx.1
    have H3 := Lib.hid (beats_wins hx)
    have H4 := Lib.hid (beats_worst hx)
    have HPT : Hid (n = 1 ∨ ∃ y : Nat, y < n ∧ pts n V y < pts n V x) := by
      by_cases h : n = 1
      · exact .inl h
      · exact .inr (beats_points (by omega) h6 HP.out hx)
    have TI3 := Lib.hid (tabIn_smallW (rdr_ext RV.out hb3) (by omega) (perm_len HP.out h6))
    have Q3 := DW.out 3 n va V.length vc V w3 TI3.out (rchk_of (by omega) (by omega) HOK.out)
    rw [H3.out] at Q3
    have QQ3 := Lib.hid Q3
    have QQ4 : Hid (∀ W, Below w3.heap.size w3 W → Calls Try.prog 11 #[.int .i64 4, .int .i64 n, .slice va V.length vc] W (IntsOut [(x : Int)] W)) := fun W hW => by
      have q := DW.out 4 n va V.length vc V W (TI3.out.below hW) (rchk_of (by omega) (by omega) HOK.out)
      rw [H4.out] at q
      exact q
    have QQP : Hid (∀ W, Below w3.heap.size w3 W → Calls Try.prog 27 #[.int .i64 n, .slice va V.length vc] W (IntsOut (pointsL n V) W)) := fun W hW => HC.out.points n va V.length vc V W w3.heap.size hW.size ((rdr_ext RV.out hb3).below hW (Nat.le_refl _)) (by omega) HOK.out
    have hpl : (pointsL n V).length = n := by simp [pointsL, sides_len]
    have HPA : Hid (∀ y : Nat, y < n → (pointsL n V).getD y 0 = pts n V y) := fun y hy => by unfold pointsL; rw [map_sides_getD n _ hy]
    have HPB : Hid (n ≠ 1 → Lib.minOf (pointsL n V) < (pointsL n V).getD x 0) := fun h1' => by
      rcases HPT.out with h | ⟨y, hy, hlt⟩
      · exact absurd h h1'
      · have := minOf_le (p := pointsL n V) (k := y) (by rw [hpl]; exact hy)
        rw [HPA.out y hy] at this
        rw [HPA.out x hxn]
        omega
    have HPLN := Lib.hid hpl
    clear hx Q3 HBT DW HC H3 H4 HPA HPT hpl TI3 hb3
    generalize pointsL n V = P at *
    go_wp2_with fail
    refine QQ3.out.mono ?_
    rintro e w4 ⟨a4, c4, rfl, _, _, r4, hb4⟩
    clear QQ3
    go_wp2_with fail
    refine (QQ4.out w4 hb4).mono ?_
    rintro e w5 ⟨a5, c5, rfl, _, _, r5, hb5⟩
    have hb35 := ext_trans hb4 hb5
    clear QQ4
    go_wp2_with fail
    refine (QQP.out w5 hb35).mono ?_
    rintro e w6 ⟨a6, c6, rfl, _, _, r6, hb6⟩
    rw [HPLN.out] at r6 ⊢
    have hb06 := ext_trans hb03 (ext_trans hb35 hb6)
    have R4 := Lib.hid (rd_ext (rd_ext r4 hb5) hb6)
    have R5 := Lib.hid (rd_ext r5 hb6)
    have R6 := Lib.hid r6
    clear QQP r4 r5 r6 hb4 hb5 hb6 hb35 hb03 RV
    go_wp2_with fail
    refine (good_zero w6.heap.size 0 3 3 _ (by omega) (zeros_at w6 24 3 #[.int .i64 0, .int .i64 0, .int .i64 0] rfl)).mono ?_
    rintro e w' ⟨rfl, rfl⟩
    have b7 : Below w6.heap.size w6 (w6.alloc (.cells #[.int .i64 0, .int .i64 0, .int .i64 0] 24)) := (Below.refl _ _).alloc (by omega) _
    have hb07 := ext_trans hb06 b7
    have R4' := Lib.hid (rd_ext R4.out b7)
    have R5' := Lib.hid (rd_ext R5.out b7)
    have R6' := Lib.hid (rd_ext R6.out b7)
    clear b7 R4 R5 R6 hb06
    generalize w6.alloc (.cells #[.int .i64 0, .int .i64 0, .int .i64 0] 24) = w7 at *
    have hxi : (x : Int) < (n : Int) := by omega
    have hxq : ¬ (n : Int) ≤ (x : Int) := by omega
    obtain ⟨b6, o6, rfl, hbb6, hc6⟩ := R6'.out.2 (by omega)
    have HCX : Hid (∀ W, Below w7.heap.size w7 W → W.cell? ⟨b6, o6 + x, none⟩ = some (.int .i64 (P.getD x 0))) := fun W hW => (hW.cell hbb6).trans (hc6 x hxn)
    have HKA : Hid (∀ (W : World) (o : Obj), (W.cell? ⟨b6, o6 + x, none⟩ = some (.int .i64 (P.getD x 0)) ∧ Hid (Below w7.heap.size w7 W)) → ((W.alloc o).cell? ⟨b6, o6 + x, none⟩ = some (.int .i64 (P.getD x 0)) ∧ Hid (Below w7.heap.size w7 (W.alloc o)))) := fun W o h => by
      have hb := h.2.out.alloc h.2.out.size o
      exact ⟨HCX.out _ hb, hb⟩
    have HEQ : Hid (∀ (aa : Option Addr) (cc : Nat) (W : World), Rd w7 w7.heap.size aa 1 [(x : Int)] → Below w7.heap.size w7 W → Calls Try.prog 15 #[.slice aa 1 cc, .slice (some ⟨W.heap.size, 0, none⟩) 1 1] (W.alloc (.cells #[.int .i64 x] 3)) fun e w' => e = .returned (.bool true) ∧ (w'.cell? ⟨b6, o6 + x, none⟩ = some (.int .i64 (P.getD x 0)) ∧ Hid (Below w7.heap.size w7 w'))) := fun aa cc W hra hW => by
      have hW1 := hW.alloc hW.size (.cells #[.int .i64 x] 3)
      refine (equal_ext [(x : Int)] [(x : Int)] aa (some ⟨W.heap.size, 0, none⟩) 1 cc 1 1 _ (rd_ext hra hW1) ((Rd.lit W 3 [(x : Int)] #[.int .i64 x] rfl).more (by simp)) (by omega) (by omega)).mono ?_
      rintro e w' ⟨rfl, hb⟩
      have h2 := ext_trans hW1 hb
      exact ⟨by simp, HCX.out _ h2, h2⟩
    have HMN : Hid (∀ W, Hid (Below w7.heap.size w7 W) → Calls Try.prog 28 #[.slice (some ⟨b6, o6, none⟩) n c6] W fun e w' => e = .returned (.int .i64 (Lib.minOf P)) ∧ W = w') := fun W hW => min_any P (some ⟨b6, o6, none⟩) n c6 W W.heap.size (by omega) (rd_ext R6'.out hW.out) (by omega)
    have hq7 : Hid (Below w7.heap.size w7 w7.drew) := (Below.refl _ w7).drew
    have HE4 : Hid (Calls Try.prog 15 #[.slice a4 1 c4, .slice (some ⟨w7.heap.size, 0, none⟩) 1 1] (w7.alloc (.cells #[.int .i64 x] 3)).drew fun e w' => e = .returned (.bool true) ∧ (w'.cell? ⟨b6, o6 + x, none⟩ = some (.int .i64 (P.getD x 0)) ∧ Hid (Below w7.heap.size w7 w'))) := HEQ.out a4 c4 w7.drew R4'.out hq7.out
    have HE5 : Hid (∀ W, Hid (Below w7.heap.size w7 W) → _) := fun W hW => HEQ.out a5 c5 W R5'.out hW.out
    have hS0 := Lib.hid (show w7.drew.cell? ⟨b6, o6 + x, none⟩ = some (.int .i64 (P.getD x 0)) ∧ Hid (Below w7.heap.size w7 w7.drew) from ⟨HCX.out _ hq7.out, hq7⟩)
    clear hc6 HEQ
    by_cases hone : n = 1
    · have hnb : ((n : Int) == 1) = true := by simp; omega
      clear hone HPB
      generalize Lib.minOf P = mn at *
      generalize P.getD x 0 = px at *
      go_wp2_with fail
      refine wp_region_held_drew (S := (fun w' => w'.cell? ⟨b6, o6 + x, none⟩ = some (.int .i64 px) ∧ Hid (Below w7.heap.size w7 w'))) (by kernel_rfl) hS0.out (fun hHeld => ?_)
      refine wpAnyH_take (i := 0) (v := ?vv0) rfl (by kernel_rfl) (by kernel_rfl) (by kernel_rfl) (fun _ _ _ h => h) (Or.inl ⟨by rfl, ?hy0⟩) (by assumption) ?rest0
      case hy0 => (intro w hSw; (try dsimp only at hSw); go_simp; try with_reducible rfl)
      simp only [Act.put, List.setIfInBounds_toArray, List.set_cons_zero, List.set_cons_succ, List.getElem_toArray, List.getElem_cons_zero]
      refine wpAnyH_take (i := 1) (v := ?vv1) rfl (by kernel_rfl) (by kernel_rfl) (by kernel_rfl) (fun _ _ _ h => h) (Or.inl ⟨by rfl, ?hy1⟩) (by assumption) ?rest1
      case hy1 => (intro w hSw; (try dsimp only at hSw); go_simp; try with_reducible rfl)
      simp only [Act.put, List.setIfInBounds_toArray, List.set_cons_zero, List.set_cons_succ, List.getElem_toArray, List.getElem_cons_zero, List.getElem_cons_succ]
      refine wpAnyH_ready (rs := [2]) (by kernel_rfl) (by simp) ?_
      refine AllReadyH.cons rfl (fun K hK => ?_) AllReadyH.nil
      go_simp
      refine hK.out _ _ (HKA.out w7.drew _ hS0.out) (fun hHeld => ?_)
      clear hK K
      try simp only [Act.put, List.setIfInBounds_toArray, List.set_cons_zero, List.set_cons_succ]
      refine wpAnyH_ready (rs := [3]) (by kernel_rfl) (by simp) ?_
      refine AllReadyH.cons rfl (fun K hK => ?_) AllReadyH.nil
      go_simp
      with_reducible refine HE4.out.mono ?_
      rintro e w8 ⟨rfl, hs8⟩
      go_wp2_with fail
      refine hK.out _ _ (hs8) (fun hHeld => ?_)
      clear hK K
      try simp only [Act.put, List.setIfInBounds_toArray, List.set_cons_zero, List.set_cons_succ]
      refine wpAnyH_take (i := 4) (v := ?vv4) rfl (by kernel_rfl) (by kernel_rfl) (by kernel_rfl) (fun _ _ _ h => h) (Or.inl ⟨by rfl, ?hy4⟩) (by assumption) ?rest4
      case hy4 => (intro w hSw; (try dsimp only at hSw); go_simp; try with_reducible rfl)
      simp only [Act.put, List.setIfInBounds_toArray, List.set_cons_zero, List.set_cons_succ, List.getElem_toArray, List.getElem_cons_zero, List.getElem_cons_succ]
      refine wpAnyH_take (i := 5) (v := ?vv5) rfl (by kernel_rfl) (by kernel_rfl) (by kernel_rfl) (fun _ _ _ h => h) (Or.inl ⟨by rfl, ?hy5⟩) (by assumption) ?rest5
      case hy5 => (intro w hSw; (try dsimp only at hSw); go_simp; try with_reducible rfl)
      simp only [Act.put, List.setIfInBounds_toArray, List.set_cons_zero, List.set_cons_succ, List.getElem_toArray, List.getElem_cons_zero, List.getElem_cons_succ]
      refine wpAnyH_take (i := 6) (v := ?vv6) rfl (by kernel_rfl) (by kernel_rfl) (by kernel_rfl) (fun _ _ _ h => h) (Or.inl ⟨by rfl, ?hy6⟩) (by assumption) ?rest6
      case hy6 => (intro w hSw; (try dsimp only at hSw); go_simp; try with_reducible rfl)
      simp only [Act.put, List.setIfInBounds_toArray, List.set_cons_zero, List.set_cons_succ, List.getElem_toArray, List.getElem_cons_zero, List.getElem_cons_succ]
      refine wpAnyH_ready (rs := [7]) (by kernel_rfl) (by simp) ?_
      refine AllReadyH.cons rfl (fun K hK => ?_) AllReadyH.nil
      go_simp
      refine hK.out _ _ (HKA.out w8 _ hs8) (fun hHeld => ?_)
      clear hK K
      try simp only [Act.put, List.setIfInBounds_toArray, List.set_cons_zero, List.set_cons_succ]
      refine wpAnyH_ready (rs := [8]) (by kernel_rfl) (by simp) ?_
      refine AllReadyH.cons rfl (fun K hK => ?_) AllReadyH.nil
      go_simp
      with_reducible refine (HE5.out _ hs8.2).mono ?_
      rintro e w9 ⟨rfl, hs9⟩
      go_wp2_with fail
      refine hK.out _ _ (hs9) (fun hHeld => ?_)
      clear hK K
      try simp only [Act.put, List.setIfInBounds_toArray, List.set_cons_zero, List.set_cons_succ]
      refine wpAnyH_take (i := 9) (v := ?vv9) rfl (by kernel_rfl) (by kernel_rfl) (by kernel_rfl) (fun _ _ _ h => h) (Or.inl ⟨by rfl, ?hy9⟩) (by assumption) ?rest9
      case hy9 => (intro w hSw; (try dsimp only at hSw); go_simp; try with_reducible rfl)
      simp only [Act.put, List.setIfInBounds_toArray, List.set_cons_zero, List.set_cons_succ, List.getElem_toArray, List.getElem_cons_zero, List.getElem_cons_succ]
      refine wpAnyH_take (i := 10) (v := ?vv10) rfl (by kernel_rfl) (by kernel_rfl) (by kernel_rfl) (fun _ _ _ h => h) (Or.inl ⟨by rfl, ?hy10⟩) (by assumption) ?rest10
      case hy10 => (intro w hSw; (try dsimp only at hSw); go_simp; try with_reducible rfl)
      simp only [Act.put, List.setIfInBounds_toArray, List.set_cons_zero, List.set_cons_succ, List.getElem_toArray, List.getElem_cons_zero, List.getElem_cons_succ]
      refine wpAnyH_take (i := 11) (v := ?vv11) rfl (by kernel_rfl) (by kernel_rfl) (by kernel_rfl) (fun _ _ _ h => h) (Or.inl ⟨by rfl, ?hy11⟩) (by assumption) ?rest11
      case hy11 => (intro w hSw; (try dsimp only at hSw); go_simp; try with_reducible rfl)
      simp only [Act.put, List.setIfInBounds_toArray, List.set_cons_zero, List.set_cons_succ, List.getElem_toArray, List.getElem_cons_zero, List.getElem_cons_succ]
      refine wpAnyH_take (i := 12) (v := ?vv12) rfl (by kernel_rfl) (by kernel_rfl) (by kernel_rfl) (fun _ _ _ h => h) (Or.inl ⟨by rfl, ?hy12⟩) (by assumption) ?rest12
      case hy12 => (intro w hSw; (try dsimp only at hSw); go_simp; try with_reducible rfl)
      simp only [Act.put, List.setIfInBounds_toArray, List.set_cons_zero, List.set_cons_succ, List.getElem_toArray, List.getElem_cons_zero, List.getElem_cons_succ]
      refine wpAnyH_take (i := 13) (v := ?vv13) rfl (by kernel_rfl) (by kernel_rfl) (by kernel_rfl) (fun _ _ _ h => h) (Or.inl ⟨by rfl, ?hy13⟩) (by assumption) ?rest13
      case hy13 => (intro w hSw; (try dsimp only at hSw); go_simp; try with_reducible rfl)
      simp only [Act.put, List.setIfInBounds_toArray, List.set_cons_zero, List.set_cons_succ, List.getElem_toArray, List.getElem_cons_zero, List.getElem_cons_succ]
      refine wpAnyH_take (i := 14) (v := undef) rfl (by kernel_rfl) (by kernel_rfl) (by kernel_rfl) (fun _ _ _ h => h) (Or.inr ⟨by rfl, rfl⟩) (by assumption) ?_
      simp only [Act.put, List.setIfInBounds_toArray, List.set_cons_zero, List.set_cons_succ, List.getElem_toArray, List.getElem_cons_zero, List.getElem_cons_succ]
      refine wpAnyH_take (i := 15) (v := undef) rfl (by kernel_rfl) (by kernel_rfl) (by kernel_rfl) (fun _ _ _ h => h) (Or.inr ⟨by rfl, rfl⟩) (by assumption) ?_
      simp only [Act.put, List.setIfInBounds_toArray, List.set_cons_zero, List.set_cons_succ, List.getElem_toArray, List.getElem_cons_zero, List.getElem_cons_succ]
      refine wpAnyH_take (i := 16) (v := undef) rfl (by kernel_rfl) (by kernel_rfl) (by kernel_rfl) (fun _ _ _ h => h) (Or.inr ⟨by rfl, rfl⟩) (by assumption) ?_
      simp only [Act.put, List.setIfInBounds_toArray, List.set_cons_zero, List.set_cons_succ, List.getElem_toArray, List.getElem_cons_zero, List.getElem_cons_succ]
      refine wpAnyH_take (i := 17) (v := undef) rfl (by kernel_rfl) (by kernel_rfl) (by kernel_rfl) (fun _ _ _ h => h) (Or.inr ⟨by rfl, rfl⟩) (by assumption) ?_
      simp only [Act.put, List.setIfInBounds_toArray, List.set_cons_zero, List.set_cons_succ, List.getElem_toArray, List.getElem_cons_zero, List.getElem_cons_succ]
      refine wpAnyH_take (i := 18) (v := undef) rfl (by kernel_rfl) (by kernel_rfl) (by kernel_rfl) (fun _ _ _ h => h) (Or.inr ⟨by rfl, rfl⟩) (by assumption) ?_
      simp only [Act.put, List.setIfInBounds_toArray, List.set_cons_zero, List.set_cons_succ, List.getElem_toArray, List.getElem_cons_zero, List.getElem_cons_succ]
      refine wpAnyH_take (i := 19) (v := undef) rfl (by kernel_rfl) (by kernel_rfl) (by kernel_rfl) (fun _ _ _ h => h) (Or.inr ⟨by rfl, rfl⟩) (by assumption) ?_
      simp only [Act.put, List.setIfInBounds_toArray, List.set_cons_zero, List.set_cons_succ, List.getElem_toArray, List.getElem_cons_zero, List.getElem_cons_succ]
      refine wpAnyH_take (i := 20) (v := undef) rfl (by kernel_rfl) (by kernel_rfl) (by kernel_rfl) (fun _ _ _ h => h) (Or.inr ⟨by rfl, rfl⟩) (by assumption) ?_
      simp only [Act.put, List.setIfInBounds_toArray, List.set_cons_zero, List.set_cons_succ, List.getElem_toArray, List.getElem_cons_zero, List.getElem_cons_succ]
      refine wpAnyH_take (i := 21) (v := ?vv21) rfl (by kernel_rfl) (by kernel_rfl) (by kernel_rfl) (fun _ _ _ h => h) (Or.inl ⟨by rfl, ?hy21⟩) (by assumption) ?rest21
      case hy21 => (intro w hSw; (try dsimp only at hSw); go_simp; try with_reducible rfl)
      simp only [Act.put, List.setIfInBounds_toArray, List.set_cons_zero, List.set_cons_succ, List.getElem_toArray, List.getElem_cons_zero, List.getElem_cons_succ]
      refine wpAnyH_take (i := 22) (v := ?vv22) rfl (by kernel_rfl) (by kernel_rfl) (by kernel_rfl) (fun _ _ _ h => h) (Or.inl ⟨by rfl, ?hy22⟩) (by assumption) ?rest22
      case hy22 => (intro w hSw; (try dsimp only at hSw); go_simp; try with_reducible rfl)
      simp only [Act.put, List.setIfInBounds_toArray, List.set_cons_zero, List.set_cons_succ, List.getElem_toArray, List.getElem_cons_zero, List.getElem_cons_succ]
      refine wpAnyH_take (i := 23) (v := ?vv23) rfl (by kernel_rfl) (by kernel_rfl) (by kernel_rfl) (fun _ _ _ h => h) (Or.inl ⟨by rfl, ?hy23⟩) (by assumption) ?rest23
      case hy23 => (intro w hSw; (try dsimp only at hSw); go_simp; try with_reducible rfl)
      simp only [Act.put, List.setIfInBounds_toArray, List.set_cons_zero, List.set_cons_succ, List.getElem_toArray, List.getElem_cons_zero, List.getElem_cons_succ]
      refine wpAnyH_done (by kernel_rfl) ?_ _
      have hbe := ext_trans hb07 hs9.2.out
      go_wp2
      go_ret
      exact ⟨rfl, hbe⟩
    · have hgt := HPB.out hone
      have hnb : ((n : Int) == 1) = false := by simp; omega
      generalize Lib.minOf P = mn at *
      generalize P.getD x 0 = px at *
      go_wp2_with fail
      go_region_held3 (fun w' => w'.cell? ⟨b6, o6 + x, none⟩ = some (.int .i64 px) ∧ Hid (Below w7.heap.size w7 w')) (first | exact hS0.out | assumption | exact HKA.out _ _ (by assumption))
        (first
          | (go_at_call 15; with_reducible refine HE4.out.mono ?_; rintro e w8 ⟨rfl, hs8⟩)
          | (go_at_call 15; with_reducible refine (HE5.out _ ?_).mono ?_; exact And.right (by assumption); rintro e w8 ⟨rfl, hs8⟩)
          | (go_at_call 28; with_reducible refine (HMN.out _ ?_).mono ?_; exact And.right (by assumption); rintro e w9 ⟨rfl, rfl⟩))
      all_goals
        have hbe := ext_trans hb07 (And.right (by assumption : _ ∧ Hid (Below w7.heap.size w7 _))).out
        go_wp2
        go_ret
        exact ⟨rfl, hbe⟩
  · subst hbe
    go_wp2
    go_ret
    exact ⟨rfl, hb03⟩
end Go.Proofs.Ytbpenheomiejfaa

/-
  plumekeep.RulesLoser returns true, for every int and every slice of slices of ints, if packages rules and tally keep their contracts; nothing that was there is written.
-/
import Derived.Test.YtbpenheomiejfaaLawRulesMay
import Derived.Test.YtbpenheomiejfaaPureB
import Derived.Test.YtbpenheomiejfaaPureA
import Derived.Test.YtbpenheomiejfaaCTallies
import Derived.Test.YtbpenheomiejfaaCTurned
import Derived.Test.YtbpenheomiejfaaCContains
namespace Go.Proofs.Ytbpenheomiejfaa
open Go.RowKit Fm
set_option linter.unusedVariables false

theorem turned_ok {n : Nat} (h1 : 1 ≤ n) (h6 : n ≤ 6) {V : List (List Int)} (hV : ∀ p ∈ V, p.Perm (sides n)) (h30 : V.length ≤ 30) : vchk n (V.map List.reverse) = 0 :=
  vchk_ok (by omega) (by rw [List.length_map]; omega) (fun l hl => chk_perm (turned_mem hV l hl) h1 h6)
theorem turned_lose {n : Nat} {V : List (List Int)} (hV : ∀ p ∈ V, p.Perm (sides n)) {x : Nat} (hb : Beats n (V.map List.reverse) x) : ∀ y : Nat, y < n → y ≠ x → cnt V x y < cnt V y x := fun y hy hne => by
  have := hb.2 y hy hne
  rwa [cnt_turned hV hb.1 hy, cnt_turned hV hy hb.1] at this
theorem RowsOut.use {L : List (List Int)} {w w' : World} {e : Ending} (h : RowsOut L w e w') : ∃ a c, e = .returned (.slice a L.length c) ∧ RdR w' w'.heap.size a L.length L ∧ Below w.heap.size w w' := by
  obtain ⟨v, vs, rfl, ho, he, hb⟩ := h
  obtain ⟨a, c, rfl⟩ : ∃ a c, v = .slice a L.length c := by
    rcases ho.2 with ⟨hv, hn⟩ | ⟨g, cap, cur, rfl, _⟩
    · exact ⟨none, 0, by rw [hv, hn]⟩
    · exact ⟨_, cap, rfl⟩
  exact ⟨a, c, rfl, RdR.of_own ho rfl he, hb⟩

set_option maxHeartbeats 4000000 in
set_option maxRecDepth 100000 in
theorem rulesLoser_is (dW : RWin) (sS : RSole) (C : TallyC) (n0 : Int) (hn0 : -9223372036854775808 ≤ n0) (hn1 : n0 ≤ 9223372036854775807) (v : Value) (L : List (List Int)) {w : World} (f : IsRows w v L) :
    Calls Try.prog 9 #[.int .i64 n0, v] w fun e w' => e = .returned (.bool true) ∧ Below w.heap.size w w' := by
  obtain ⟨a, c, rfl, hr, hall, hlc, _, hcm, h24⟩ := f
  have HR := Lib.hid hr
  have HO : Hid (∀ l ∈ L, ∀ x ∈ l, Ok64 x) := fun l hl => (hall l hl).1
  have W0 : Hid (∀ W, Calls Try.prog 16 #[] W fun e w' => e = .returned (.bool true) ∧ Below W.heap.size W w') := fun W => winners0_any dW sS W
  have DW : Hid RWin := dW
  have HC := Lib.hid C
  clear hr hall dW sS C h24
  go_enter Try.func9, Try.ntmps9
  go_wp2_with fail
  refine (W0.out w).mono ?_
  rintro e w0 ⟨rfl, hb0⟩
  clear W0
  go_wp2_with fail
  refine (tallies_any HC.out w0).mono ?_
  rintro e w1 ⟨rfl, hb1'⟩
  have hb1 := ext_trans hb0 hb1'
  clear hb0 hb1'
  go_wp2_with fail
  refine (within_any n0 5 w1 hn0 hn1 (by omega) (by omega)).mono ?_
  rintro e w1' ⟨rfl, rfl⟩
  obtain ⟨n, hn⟩ : ∃ n : Nat, 2 + n0 % 5 = n := ⟨(2 + n0 % 5).toNat, by omega⟩
  have h2 : 2 ≤ n := by omega
  have h6 : n ≤ 6 := by omega
  have e6 : n0 % 5 = (n : Int) - 2 := by omega
  rw [e6]
  clear hn e6 hn0 hn1
  go_wp2_with fail
  rw [show 2 + ((n : Int) - 2) = n by omega]
  refine (votesOf_any n a L.length c L w1 (rdr_ext HR.out hb1) hlc hcm (by omega) h6 HO.out).mono ?_
  rintro e w2 h
  obtain ⟨va, vc, rfl, _, _, hrV, hb2⟩ := h.use
  clear h
  have hb02 := ext_trans hb1 hb2
  have HV30 := votesOf_len n L
  have HP := Lib.hid (fun p (hp : p ∈ votesOf n L) => votesOf_mem hp)
  have HOK := Lib.hid (votesOf_v0 (show 1 ≤ n by omega) h6 L)
  have RV := Lib.hid hrV
  generalize votesOf n L = V at *
  have hV30 : V.length ≤ 30 := by omega
  have HTO := Lib.hid (turned_ok (by omega) h6 HP.out hV30)
  have HTL : Hid (∀ x : Nat, Beats n (V.map List.reverse) x → ∀ y : Nat, y < n → y ≠ x → cnt V x y < cnt V y x) := fun x hb => turned_lose HP.out hb
  have HPL : Hid (∀ p ∈ V, 1 ≤ p.length ∧ p.length ≤ 1000) := fun p hp => by
    have := (HP.out p hp).length_eq
    rw [sides_len] at this
    omega
  have hul : (V.map List.reverse).length = V.length := by simp
  have HUL := Lib.hid hul
  clear HV30 hrV hb1 hb2 HR HO hlc hcm hul
  go_wp2_with fail
  refine (turned_any va vc V w2 w2.heap.size (Nat.le_refl _) RV.out (by omega) HPL.out).mono ?_
  rintro e w3 h
  obtain ⟨ua, uc, rfl, rU, hb3⟩ := h.use
  clear h
  rw [HUL.out] at rU ⊢
  have hb03 := ext_trans hb02 hb3
  have hb23 := hb3
  clear hb3 hb02 HUL HPL
  have RU := Lib.hid rU
  clear rU
  generalize V.map List.reverse = U at *
  obtain ⟨bx, be, hbc, hbt⟩ : ∃ bx be : Int, (Calls Try.prog 26 #[.int .i64 n, .slice ua V.length uc] w3 fun e w' => e = .returned (.tuple #[.int .i64 bx, .int .i64 be]) ∧ Below w3.heap.size w3 w') ∧
      ((∃ x : Nat, Beats n U x ∧ bx = x ∧ be = 0) ∨ (be = 4)) := by
    by_cases hex : ∃ x, Beats n U x
    · obtain ⟨x, hx⟩ := hex
      exact ⟨x, 0, HC.out.beaterY n ua V.length uc U w3 w3.heap.size x (Nat.le_refl _) RU.out (by omega) HTO.out hx, .inl ⟨x, hx, rfl, rfl⟩⟩
    · have hno : ∀ x, ¬ Beats n U x := fun x hx => hex ⟨x, hx⟩
      exact ⟨0, 4, HC.out.beaterN n ua V.length uc U w3 w3.heap.size (Nat.le_refl _) RU.out (by omega) HTO.out hno, .inr rfl⟩
  have HBC := Lib.hid hbc
  have HBT := Lib.hid hbt
  clear hbc hbt
  go_wp2_with fail
  refine HBC.out.mono ?_
  rintro e w4 ⟨rfl, hb4⟩
  have hb04 := ext_trans hb03 hb4
  have hb24 := ext_trans hb23 hb4
  clear HBC hb4 hb03 hb23 RU HTO
  rcases HBT.out with ⟨x, hx, hbx, hbe⟩ | hbe
  · subst hbx; subst hbe
    have hxn := hx.1
    have hlose := HTL.out x hx
    have H2 := Lib.hid (loser_win2 h2 h6 HP.out hxn hlose)
    have H3 := Lib.hid (loser_win3 h2 hxn hlose)
    have l2 := winL_le 2 (show 1 ≤ n by omega) V
    have l3 := winL_le 3 (show 1 ≤ n by omega) V
    have TI4 := Lib.hid (tabIn_smallW (rdr_ext RV.out hb24) (by omega) (perm_len HP.out h6))
    have Q2 := Lib.hid (DW.out 2 n va V.length vc V w4 TI4.out (rchk_of (by omega) (by omega) HOK.out))
    have Q3 : Hid (∀ W, Below w4.heap.size w4 W → Calls Try.prog 11 #[.int .i64 3, .int .i64 n, .slice va V.length vc] W (IntsOut (winL 3 n V) W)) := fun W hW => DW.out 3 n va V.length vc V W (TI4.out.below hW) (rchk_of (by omega) (by omega) HOK.out)
    clear hx hlose HTL HBT DW HC
    generalize winL 2 n V = W2 at *
    generalize winL 3 n V = W3 at *
    go_wp2_with fail
    refine Q2.out.mono ?_
    rintro e w5 ⟨a5, c5, rfl, _, _, r5, hb5⟩
    have hb05 := ext_trans hb04 hb5
    clear Q2
    go_wp2_with fail
    refine (Q3.out w5 hb5).mono ?_
    rintro e w6 ⟨a6, c6, rfl, _, _, r6, hb6⟩
    have hb06 := ext_trans hb05 hb6
    have R5 := Lib.hid (rd_ext r5 hb6)
    have R6 := Lib.hid r6
    clear Q3 r5 r6 hb5 hb6 hb05 hb04 hb24
    go_wp2_with fail
    refine (good_zero w6.heap.size 0 2 2 _ (by omega) (zeros_at w6 24 2 #[.int .i64 0, .int .i64 0] rfl)).mono ?_
    rintro e w' ⟨rfl, rfl⟩
    have b7 : Below w6.heap.size w6 (w6.alloc (.cells #[.int .i64 0, .int .i64 0] 24)) := (Below.refl _ _).alloc (by omega) _
    have hb07 := ext_trans hb06 b7
    have R5' := Lib.hid (rd_ext R5.out b7)
    have R6' := Lib.hid (rd_ext R6.out b7)
    clear b7 R5 R6 hb06
    generalize w6.alloc (.cells #[.int .i64 0, .int .i64 0] 24) = w7 at *
    have q5 := contains_any W2 (x : Int) a5 W2.length c5 w7 w7.heap.size R5'.out (by omega)
    rw [decide_eq_false H2.out] at q5
    have q6 := contains_any W3 (x : Int) a6 W3.length c6 w7 w7.heap.size R6'.out (by omega)
    rw [decide_eq_false H3.out] at q6
    have Q5 := Lib.hid q5
    have Q6 := Lib.hid q6
    clear q5 q6
    go_wp2_with fail
    refine Q5.out.mono ?_
    rintro e w' ⟨rfl, rfl⟩
    go_wp2_with fail
    refine Q6.out.mono ?_
    rintro e w' ⟨rfl, rfl⟩
    go_wp2
    go_ret
    exact ⟨rfl, hb07⟩
  · subst hbe
    go_wp2
    go_ret
    exact ⟨rfl, hb04⟩
end Go.Proofs.Ytbpenheomiejfaa

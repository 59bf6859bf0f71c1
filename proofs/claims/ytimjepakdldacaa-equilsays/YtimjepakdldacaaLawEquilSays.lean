/-
  plumelaw.EquilSays returns true, for every two slices of slices of ints, if package equil keeps its contracts; nothing that was there is written.
-/
import Derived.Test.YtimjepakdldacaaLawEquilRest0
import Derived.Test.YtimjepakdldacaaCGameErr
import Derived.Test.YtimjepakdldacaaCLeftOf
import Derived.Test.YtimjepakdldacaaCRestsOf
namespace Go.Proofs.Ytimjepakdldacaa
open Go.RowKit Fm
set_option linter.unusedVariables false

set_option maxHeartbeats 4000000 in
set_option maxRecDepth 100000 in
theorem equilSays_is (eC : ECheck) (eRE : ERestE) (eR : ERest) (eLE : ELeftE) (eL : ELeft) (va : Value) (A : List (List Int)) {w : World} (fa : IsRows w va A) (vb : Value) (B : List (List Int)) (fb : IsRows w vb B) :
    Calls Try.prog 3 #[va, vb] w fun e w' => e = .returned (.bool true) ∧ Below w.heap.size w w' := by
  obtain ⟨a, c, rfl, hra, halla, hlca, _, hcma, h24a⟩ := fa
  obtain ⟨b, d, rfl, hrb, hallb, hlcb, _, hcmb, h24b⟩ := fb
  have TA := tab_in (c := c) hra h24a halla
  have TB := tab_in (c := d) hrb h24b hallb
  have QG : Hid (∀ W, Below w.heap.size w W → Calls Try.prog 11 #[.slice a A.length c, .slice b B.length d] W fun e w' => e = .returned (.int .i64 (echk A B)) ∧ Below W.heap.size W w') := fun W hW =>
    gameErr_any a b A.length c B.length d A B W (rdr_ext hra hW) (rdr_ext hrb hW) (by omega) (by omega) (fun l hl => by have := (halla l hl).2; omega) (fun l hl => by have := (hallb l hl).2; omega)
  have QK : Hid (∀ W, Below w.heap.size w W → Calls Try.prog 12 #[.slice a A.length c, .slice b B.length d] W fun e w' => e = .returned (.int .i64 (echk A B)) ∧ Below W.heap.size W w') := fun W hW => eC a A.length c A b B.length d B W (TA.below hW) (TB.below hW)
  by_cases h0 : echk A B = 0
  · have g := echk_ok h0
    obtain ⟨r, hrl⟩ : ∃ r, A.length = r := ⟨_, rfl⟩
    obtain ⟨k, hk⟩ : ∃ k, (A.getD 0 []).length = k := ⟨_, rfl⟩
    rw [hrl, hk] at g
    have hrb' : B.length = r := g.b.len
    have QR : Hid (∀ W, Below w.heap.size w W → Calls Try.prog 9 #[.slice a A.length c, .slice b B.length d] W (PairsOut (eqA A B k r) W)) := fun W hW => eR r k a A.length c A b B.length d B W (TA.below hW) (TB.below hW) g
    have QL : Hid (∀ W, Below w.heap.size w W → Calls Try.prog 10 #[.slice a A.length c, .slice b B.length d] W (LeftOut A B r k W)) := fun W hW => eL r k a A.length c A b B.length d B W (TA.below hW) (TB.below hW) g
    rw [hrl] at hra
    rw [hrb'] at hrb
    have QLO : Hid (∀ W, Below w.heap.size w W → Calls Try.prog 13 #[.slice a r c, .slice b r d] W fun e w' => ∃ R C, EndS A (colsM k B) r k R C ∧ ∃ a c b d, e = .returned (.tuple #[.slice a (keptL r R).length c, .slice b (keptL k C).length d]) ∧
      Rd w' w'.heap.size a (keptL r R).length (keptL r R) ∧ Rd w' w'.heap.size b (keptL k C).length (keptL k C) ∧ Below W.heap.size W w') := fun W hW => leftOf_any g a r c b r d W (rdr_ext hra hW) (rdr_ext hrb hW)
    have QRO : Hid (∀ W, Below w.heap.size w W → Calls Try.prog 15 #[.slice a r c, .slice b r d] W (RestsOut (eqA A B k r) W)) := fun W hW => restsOf_any g a c b d W (rdr_ext hra hW) (rdr_ext hrb hW)
    have HG := Lib.hid g
    have h36 := eq36 g
    have hr6 := g.a.r6
    have hk6 := g.a.k6
    have HONE : Hid (∀ R C R' C', EndS A (colsM k B) r k R C → EndS A (colsM k B) r k R' C' → keptL r R' = keptL r R ∧ keptL k C' = keptL k C) := fun R C R' C' e e' => by
      obtain ⟨h1, h2⟩ := end_one HG.out.a (cols_pay HG.out.b) e e'
      exact ⟨(keptL_congr' h1).symm, (keptL_congr' h2).symm⟩
    unfold PairsOut at QR
    unfold LeftOut at QL
    unfold RestsOut at QRO
    rw [h0] at QG QK
    rw [hrl, hrb'] at QR QL QG QK ⊢
    clear h0 hra hrb halla hallb TA TB hrl hk g h24a h24b hlca hlcb hrb' HG
    go_enter Try.func3, Try.ntmps3
    go_wp2_with fail
    refine (QR.out w (Below.refl _ w)).mono ?_
    rintro e w2 ⟨a3, c3, rfl, hc3, hm3, r3, hb02⟩
    have R3 := Lib.hid r3
    clear QR r3
    go_wp2_with fail
    refine (QL.out w2 hb02).mono ?_
    rintro e w3 ⟨R, C, he, a4, c4, a5, c5, rfl, hc4, hc5, r4, r5, hb3⟩
    have hb03 := ext_trans hb02 hb3
    have HONE2 := Lib.hid (fun R' C' e' => HONE.out R C R' C' he e')
    have hX6 := keptL_le r R
    have hY6 := keptL_le k C
    have R3' := Lib.hid (rd2_ext R3.out hb3)
    have R4 := Lib.hid r4
    have R5 := Lib.hid r5
    clear QL hb02 hb3 r4 r5 R3 he HONE
    generalize eqA A B k r = ps at *
    generalize keptL r R = X at *
    generalize keptL k C = Y at *
    go_wp2_with fail
    refine (QG.out w3 hb03).mono ?_
    rintro e w4 ⟨rfl, hb4⟩
    have hb04 := ext_trans hb03 hb4
    go_wp2_with fail
    refine (QK.out w4 hb04).mono ?_
    rintro e w5 ⟨rfl, hb5⟩
    have hb05 := ext_trans hb04 hb5
    have hb35 := ext_trans hb4 hb5
    clear QG QK hb4 hb5 hb03 hb04
    go_wp2_with fail
    refine (QLO.out w5 hb05).mono ?_
    rintro e w6 ⟨R', C', he', a6, c6, a7, c7, rfl, r6, r7, hb6⟩
    obtain ⟨eX, eY⟩ := HONE2.out R' C' he'
    rw [eX] at r6 ⊢
    rw [eY] at r7 ⊢
    have hb06 := ext_trans hb05 hb6
    have hb36 := ext_trans hb35 hb6
    have P3 := Lib.hid (rd2_ext R3'.out hb36)
    have P4 := Lib.hid (rd_ext R4.out hb36)
    have P5 := Lib.hid (rd_ext R5.out hb36)
    have P6 := Lib.hid r6
    have P7 := Lib.hid r7
    clear QLO hb35 hb36 hb6 hb05 R3' R4 R5 eX eY he' HONE2 r6 r7
    go_wp2_with fail
    refine (QRO.out w6 hb06).mono ?_
    rintro e w7 ⟨v7, rfl, own7, hb7⟩
    obtain ⟨a8, c8, rfl, _, _⟩ := own2_slice own7
    have R7 := Lib.hid (Rd2.of_own own7)
    have q3 := equal2_any ps ps a3 a8 ps.length c3 ps.length c8 w7 _ (rd2_ext P3.out hb7) R7.out (by omega) (by omega)
    rw [decide_eq_true rfl] at q3
    have Q3 := Lib.hid q3
    have hb07 := ext_trans hb06 hb7
    have P47 := Lib.hid (rd_ext P4.out hb7)
    have P57 := Lib.hid (rd_ext P5.out hb7)
    have P67 := Lib.hid (rd_ext P6.out hb7)
    have P77 := Lib.hid (rd_ext P7.out hb7)
    clear q3 own7 P3 QRO hb7 hb06 R7 P4 P5 P6 P7
    go_wp2_with fail
    refine Q3.out.mono ?_
    rintro e w8 ⟨rfl, j8, rfl⟩
    have Q4 : Hid (Calls Try.prog 16 #[.slice a4 X.length c4, .slice a6 X.length c6] (w7.drewN j8) fun e w' => e = .returned (.bool true) ∧ ∃ j, w' = (w7.drewN j8).drewN j) := by
      have := equal_any X X a4 a6 X.length c4 X.length c6 (w7.drewN j8) _ (P47.out.drewN j8) (P67.out.drewN j8) (by omega) (by omega)
      rw [decide_eq_true rfl] at this
      exact this
    clear Q3
    go_wp2_with fail
    refine Q4.out.mono ?_
    rintro e w9 ⟨rfl, j9, rfl⟩
    have Q5 : Hid (∀ W, W = (w7.drewN j8).drewN j9 → Calls Try.prog 16 #[.slice a5 Y.length c5, .slice a7 Y.length c7] W fun e w' => e = .returned (.bool true) ∧ ∃ j, w' = W.drewN j) := fun W hW => by
      have := equal_any Y Y a5 a7 Y.length c5 Y.length c7 W w7.heap.size (by rw [hW]; exact (P57.out.drewN j8).drewN j9) (by rw [hW]; exact (P77.out.drewN j8).drewN j9) (by omega) (by omega)
      rw [decide_eq_true rfl] at this
      exact this
    have hbE := below_drewN (below_drewN hb07 j8) j9
    obtain ⟨W, hW⟩ : ∃ W, (w7.drewN j8).drewN j9 = W := ⟨_, rfl⟩
    have Q6 := Lib.hid (Q5.out W hW.symm)
    rw [hW] at hbE ⊢
    clear Q4 Q5 hW P47 P57 P67 P77 hb07
    go_wp2_with fail
    refine Q6.out.mono ?_
    rintro e w9 ⟨rfl, j10, rfl⟩
    clear Q6
    go_wp2
    go_ret
    exact ⟨rfl, below_drewN hbE _⟩
  · have QR : Hid (∀ W, Below w.heap.size w W → Calls Try.prog 9 #[.slice a A.length c, .slice b B.length d] W (ErrOut (echk A B) W)) := fun W hW => eRE a A.length c A b B.length d B W (TA.below hW) (TB.below hW) h0
    have QL : Hid (∀ W, Below w.heap.size w W → Calls Try.prog 10 #[.slice a A.length c, .slice b B.length d] W (TwoErr (echk A B) W)) := fun W hW => eLE a A.length c A b B.length d B W (TA.below hW) (TB.below hW) h0
    have hne : (echk A B != 0) = true := by simpa using h0
    unfold ErrOut at QR
    unfold TwoErr at QL
    clear h0 hra hrb halla hallb TA TB
    generalize echk A B = rr at *
    generalize A.length = na at *
    generalize B.length = nb at *
    go_enter Try.func3, Try.ntmps3
    go_wp2_with fail
    refine (QR.out w (Below.refl _ w)).mono ?_
    rintro e w2 ⟨a3, c3, rfl, hb02⟩
    clear QR
    go_wp2_with fail
    refine (QL.out w2 hb02).mono ?_
    rintro e w3 ⟨a4, c4, a5, c5, rfl, hb3⟩
    have hb03 := ext_trans hb02 hb3
    clear QL hb02 hb3
    go_wp2_with fail
    refine (QG.out w3 hb03).mono ?_
    rintro e w4 ⟨rfl, hb4⟩
    have hb04 := ext_trans hb03 hb4
    go_wp2_with fail
    refine (QK.out w4 hb04).mono ?_
    rintro e w5 ⟨rfl, hb5⟩
    have hb05 := ext_trans hb04 hb5
    clear QG QK hb4 hb5 hb03 hb04
    go_wp2
    go_ret
    exact ⟨by first | rfl | simp, hb05⟩
end Go.Proofs.Ytimjepakdldacaa

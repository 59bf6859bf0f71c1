/-
  plumetop.TopPower returns true, for every slice of ints and int, if packages power and worth keep their contracts; nothing that was there is written.
-/
import Derived.Test.YthcaipnlgbnfkaaCTopG
import Derived.Test.YthcaipnlgbnfkaaCPowers
namespace Go.Proofs.Ythcaipnlgbnfkaa
open Go.RowKit Fm
set_option linter.unusedVariables false

theorem filL_skip {N : Nat} {f : Nat → Int} {k : Nat} (h0 : f k = 0) : filL N f k = filL N f (k + 1) := fnL_congr N (fun j hj => by
  simp only [Int.toNat_natCast]
  by_cases q : j < k
  · rw [if_pos q, if_pos (by omega)]
  · rw [if_neg q]
    by_cases e : j = k
    · subst e; rw [if_pos (by omega), h0]
    · rw [if_neg (by omega)])
def simG (P : List Int) (q S : Nat) : Int := if q ≤ hv (wt P) P.length S then 1 else 0
theorem sim_gm {P : List Int} {q : Nat} (g : Wgt P q) : Gm P.length (funL (2 ^ P.length) (simG P q)) := by
  refine funL_gm g.pos g.le (fun S _ => by unfold simG; split <;> omega) ?_
  unfold simG
  have : hv (wt P) P.length 0 = 0 := by
    have e : hv (wt P) P.length 0 = sN (fun _ => 0) P.length := sN_congr (fun j _ => by simp)
    rw [e, sN_zero]
  have := g.q1
  rw [if_neg (by omega)]
theorem sim_share {P : List Int} {q : Nat} (g : Wgt P q) : shL P.length (funL (2 ^ P.length) (simG P q)) = tuL P q := fnL_congr P.length (fun j hj => by
  rw [Int.toNat_natCast, ← sh_turns hj]
  exact sh_congr (fun S hS => funL_at (simG P q) hS) hj)

set_option maxHeartbeats 4000000 in
set_option maxRecDepth 100000 in
theorem topPower_is (sS : WShare) (sW : PwWins) (sT : PwTurns) (v1 : Value) (l : List Int) {w : World} (f1 : IsInts w v1 l) (n0 : Int) (hn0 : -9223372036854775808 ≤ n0) (hn1 : n0 ≤ 9223372036854775807) :
    Calls Try.prog 13 #[v1, .int .i64 n0] w fun e w' => e = .returned (.bool true) ∧ Below w.heap.size w w' := by
  obtain ⟨a, c, rfl, hr, hox, hlc, _, hcm, h8⟩ := f1
  have Q0 := Lib.hid (weightsOf_any a l.length c l n0 w hr hlc hcm hox hn0 hn1)
  unfold WtOut at Q0
  have W0 : Hid (∀ W, Calls Try.prog 42 #[] W fun e w' => e = .returned (.bool true) ∧ Below W.heap.size W w') := fun W => works_any sS W
  have SS : Hid WShare := sS
  have SW : Hid PwWins := sW
  have ST : Hid PwTurns := sT
  clear sS sW sT hr hox hn0 hn1
  generalize weightsOf l = P at *
  go_enter Try.func13, Try.ntmps13
  go_wp2_with fail
  refine Q0.out.mono ?_
  rintro e w1 ⟨a1, c1, q, rfl, hc1, r1, gw, hb1⟩
  clear Q0
  have HGM := Lib.hid (sim_gm gw)
  have HSH := Lib.hid (sim_share gw)
  have h1 := gw.pos
  have h6 := gw.le
  have HWN : Hid (∀ S : Nat, S < 2 ^ P.length → winE P q S = 0 ∧ winA P q S = winB2 (wt P) P.length q S) := fun S hS => gw.win hS
  have HSG : Hid (∀ S, simG P q S = if winB2 (wt P) P.length q S = true then 1 else 0) := fun S => by
    unfold simG winB2
    by_cases h : q ≤ hv (wt P) P.length S
    · rw [if_pos h, decide_eq_true h]; rfl
    · rw [if_neg h, decide_eq_false h]; rfl
  have HGW := Lib.hid gw
  have R1 := Lib.hid r1
  have hpw := gm_pw h6
  have hN64 := pow6 h6
  have hN1 := pow1 P.length
  have HTL := Lib.hid (tuL_len P q)
  obtain ⟨N, hN⟩ : ∃ N, 2 ^ P.length = N := ⟨_, rfl⟩
  rw [hN] at HGM HSH HWN hpw hN64 hN1
  have HFL := Lib.hid (funL_len N (simG P q))
  have hmk : ∀ W : World, (Instr.makeSlice 22 (.int .i64 N) (.int .i64 N)).run Try.prog W = .ok (.slice (some ⟨W.heap.size, 0, none⟩) N N) (W.alloc (.cells (zeros N) 3)) := make_ints N (by omega)
  have own0 := own_lit w1 3 (List.replicate N 0) (zeros N) rfl (by unfold maxLen; simp; omega)
  rw [List.length_replicate, filL_zero N (simG P q)] at own0
  have b2 : Below w1.heap.size w1 (w1.alloc (.cells (zeros N) 3)) := (Below.refl _ w1).alloc (Nat.le_refl _) _
  have hs2 : w1.heap.size < (w1.alloc (.cells (zeros N) 3)).heap.size := by simp
  have r12 := R1.out.below b2 (Nat.le_refl _)
  have hb02 := hb1.alloc hb1.size (.cells (zeros N) 3)
  clear r1 gw hN b2 R1
  generalize hn : P.length = n at *
  have HN := Lib.hid hn
  clear hn
  go_wp2_with fail
  clear hmk hpw
  generalize w1.alloc (.cells (zeros N) 3) = w2 at *
  obtain ⟨g, hg⟩ : ∃ g, g = w1.heap.size := ⟨_, rfl⟩
  have hgw : w.heap.size ≤ g := by rw [hg]; exact hb1.size
  rw [← hg] at own0 r12 hs2 ⊢
  have R12 := Lib.hid r12
  clear hg hb1 r12
  go_loopw [27] (fun iv wr => ∃ S : Nat, S ≤ N ∧ iv = .int .i64 S ∧ wr.ownsRow g 3 1 (.slice (some ⟨g, 0, none⟩) N N) N (I (filL N (simG P q) S)) ∧ w2.grownBy wr (some g)) (fun iv _ => N - (intOf iv).toNat)
  case atStart => exact ⟨0, Nat.zero_le _, rfl, own0, grown_refl _ _⟩
  case round =>
    obtain ⟨S, hS, rfl, own, hgr⟩ := hrel
    clear own0
    have hz := hgr.size
    by_cases hSN : S < N
    · have r1 := (R12.out.grown hgr (by omega) (fun y hy => by injection hy with hy; omega)).more (show g ≤ wr.heap.size by omega)
      obtain ⟨e1, e2⟩ := HWN.out S hSN
      have Q := SW.out a1 n c1 P q S wr ⟨r1, by omega, hc1⟩
      rw [e1, e2] at Q
      have HQ := Lib.hid Q
      have hsg := HSG.out S
      clear Q e1 e2 r1
      generalize winB2 (wt P) n q S = b at *
      go_wp2_with fail
      refine HQ.out.mono ?_
      rintro e w3 ⟨rfl, hb3⟩
      have own3 := own_below own hb3 (Nat.le_refl _)
      have hgr3 := grown_trans hgr ⟨hb3.os, hb3.tape, hb3.output, hb3.size, fun k hk _ => hb3.block k hk⟩
      clear HQ own hgr hb3
      cases b with
      | true =>
        have hst := filL_set (simG P q) hSN
        rw [hsg] at hst
        have ck := own_cell own3 S hSN
        have fk := own3.frozenAt S
        obtain ⟨s1, g1⟩ := own3.stored S (.int .i64 1)
        have es : (I (filL N (simG P q) S)).set S (.int .i64 1) = I (filL N (simG P q) (S + 1)) := by
          rw [← hst]; unfold I; rw [List.map_set]; rfl
        rw [es] at s1
        have hgr4 := grown_trans hgr3 g1
        clear es g1 hst own3 hgr3 hsg
        go_wp2
        go_roundw
        case rel => exact ⟨S + 1, by omega, by go_num, s1, hgr4⟩
        case measure => simp [intOf]; omega
      | false =>
        have hsk := filL_skip (N := N) (f := simG P q) (k := S) (by rw [hsg]; rfl)
        rw [hsk] at own3
        clear hsk hsg
        go_wp2
        go_roundw
        case rel => exact ⟨S + 1, by omega, by go_num, own3, hgr3⟩
        case measure => simp [intOf]; omega
    · obtain rfl : S = N := by omega
      rw [filL_end] at own
      have r1 := (R12.out.grown hgr (by omega) (fun y hy => by injection hy with hy; omega)).more (show g ≤ wr.heap.size by omega)
      have hbe := hb02.grown hgr hb02.size (fun y hy => by injection hy with hy; omega)
      have HT := Lib.hid (ST.out a1 n c1 P q wr ⟨r1, by omega, hc1⟩ HGW.out)
      have RV := Lib.hid (Rd.of_own own)
      clear r1 own hgr R12
      unfold IntsOut at HT
      rw [HTL.out] at HT
      go_wp2_with fail
      refine HT.out.mono ?_
      rintro e w4 ⟨a4, c4, rfl, _, _, r4, hb4⟩
      have hb04 := ext_trans hbe hb4
      clear HT hbe
      go_wp2_with fail
      refine (share_useW SS.out HGM.out HFL.out (some ⟨g, 0, none⟩) S (Nat.le_refl _) w4 (rd_ext RV.out hb4)).mono ?_
      rintro e w5 ⟨a5, c5, rfl, hc5, r5, hb5⟩
      rw [HSH.out] at r5
      have hb05 := ext_trans hb04 hb5
      have R45 := Lib.hid (rd_ext r4 hb5)
      have R5 := Lib.hid r5
      clear r4 r5 hb4 hb5 hb04 SS RV
      generalize tuL P q = res at *
      go_wp2_with fail
      refine (W0.out w5).mono ?_
      rintro e w6 ⟨rfl, hb6⟩
      have hb06 := ext_trans hb05 hb6
      have R46 := Lib.hid (rd_ext R45.out hb6)
      have R56 := Lib.hid (rd_ext R5.out hb6)
      clear W0 hb05 hb6 R45 R5
      go_wp2_with fail
      refine (tgood_zero w6.heap.size 0 2 2 _ (by omega) (zeros_at w6 23 2 #[.int .i64 0, .int .i64 0] rfl)).mono ?_
      rintro e w7 ⟨rfl, rfl⟩
      have b7 : Below w6.heap.size w6 (w6.alloc (.cells #[.int .i64 0, .int .i64 0] 23)) := (Below.refl _ _).alloc (Nat.le_refl _) _
      have hb07 := ext_trans hb06 b7
      have HE := Lib.hid (equal_ext res res a4 a5 n c4 n c5 _ (rd_ext R46.out b7) (rd_ext R56.out b7) (by omega) (by omega))
      rw [decide_eq_true rfl] at HE
      clear b7 hb06 R46 R56
      generalize w6.alloc (.cells #[.int .i64 0, .int .i64 0] 23) = w7 at *
      go_wp2_with fail
      refine HE.out.mono ?_
      rintro e w8 ⟨rfl, hb8⟩
      have hb08 := ext_trans hb07 hb8
      clear HE hb07 hb8
      go_wp2
      go_ret
      exact ⟨rfl, hb08⟩
end Go.Proofs.Ythcaipnlgbnfkaa

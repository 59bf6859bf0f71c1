/-
  plumekeep.PowerDual returns true, for every slice of ints and int, if package power keeps its contracts; nothing that was there is written.
-/
import Derived.Test.YtdoidajdfnbiiaaCPowers
namespace Go.Proofs.Ytdoidajdfnbiiaa
open Go.RowKit Fm
set_option linter.unusedVariables false

theorem Wgt.dual {P : List Int} {q : Nat} (g : Wgt P q) : Wgt P (sN (wt P) P.length + 1 - q) := ⟨g.pos, g.le, g.bd, by have := g.q2; omega, by have := g.q1; have := g.q2; omega⟩
theorem sw_dualL {P : List Int} {q : Nat} (g : Wgt P q) : swL P (sN (wt P) P.length + 1 - q) = swL P q := fnL_congr _ (fun i hi => by
  rw [Int.toNat_natCast, sw_dual hi g.q1 g.q2])
theorem tu_dualL {P : List Int} {q : Nat} (g : Wgt P q) : tuL P (sN (wt P) P.length + 1 - q) = tuL P q := fnL_congr _ (fun i hi => by
  rw [Int.toNat_natCast]
  have := tu_dual (W := wt P) hi g.q1 (by rw [tot_sN]; exact g.q2)
  rw [tot_sN] at this
  rw [this])

set_option maxHeartbeats 4000000 in
set_option maxRecDepth 100000 in
theorem powerDual_is (sS : PwSwings) (sT : PwTurns) (v1 : Value) (l : List Int) {w : World} (f1 : IsInts w v1 l) (n0 : Int) (hn0 : -9223372036854775808 ≤ n0) (hn1 : n0 ≤ 9223372036854775807) :
    Calls Try.prog 6 #[v1, .int .i64 n0] w fun e w' => e = .returned (.bool true) ∧ Below w.heap.size w w' := by
  obtain ⟨a, c, rfl, hr, hox, hlc, _, hcm, _⟩ := f1
  have HR := Lib.hid hr
  have HO := Lib.hid hox
  have W0 : Hid (∀ W, Calls Try.prog 17 #[] W fun e w' => e = .returned (.bool true) ∧ Below W.heap.size W w') := fun W => powers_any sS sT W
  have SS : Hid PwSwings := sS
  have ST : Hid PwTurns := sT
  clear sS sT hr hox
  go_enter Try.func6, Try.ntmps6
  go_wp2_with fail
  refine (W0.out w).mono ?_
  rintro e w1 ⟨rfl, hb1⟩
  clear W0
  go_wp2_with fail
  refine (weightsOf_any a l.length c l n0 w1 (rd_ext HR.out hb1) hlc hcm HO.out hn0 hn1).mono ?_
  rintro e w2 ⟨ap, cp, q, rfl, hpc, rP, hg, hb2⟩
  have HBD : Hid (∀ x ∈ weightsOf l, 0 ≤ x ∧ x ≤ 19) := weightsK_bd l 5
  have G := Lib.hid hg
  have RP := Lib.hid rP
  have hb02 := ext_trans hb1 hb2
  generalize weightsOf l = P at *
  have hp1 := hg.pos
  have hp6 := hg.le
  have hq1 := hg.q1
  have hqs := hg.q2
  obtain ⟨n, hn⟩ : ∃ n, P.length = n := ⟨_, rfl⟩
  have HN := Lib.hid hn
  have hsb : sN (wt P) n ≤ 114 := by
    have h1 := sN_bd (f := wt P) (b := 19) (n := n) (fun i hi => by have := HBD.out _ (getD_mem P i (by rw [hn]; exact hi)); unfold wt; omega)
    omega
  rw [hn] at hp1 hp6 hpc hqs RP ⊢
  clear hb1 hb2 HR HO hg rP hn0 hn1
  have QN : Hid (∀ W, Below w2.heap.size w2 W → Calls Try.prog 19 #[.slice ap n cp] W fun e w' => e = .returned (.int .i64 (sN (wt P) n)) ∧ W = w') := fun W hW => by
    have q := sumK_any ap n cp P W W.heap.size (rd_ext RP.out hW) (by omega) (fun x hx => by have := HBD.out x hx; omega)
    rw [wt_sum G.out.bd, hn] at q
    exact q
  have QS : Hid (∀ W, Below w2.heap.size w2 W → Calls Try.prog 10 #[.slice ap n cp, .int .i64 q] W (PwOut n (swL P q) W)) := fun W hW => sw_use SS.out G.out HN.out ap cp hpc W (rd_ext RP.out hW)
  have QT : Hid (∀ W, Below w2.heap.size w2 W → Calls Try.prog 11 #[.slice ap n cp, .int .i64 q] W (PwOut n (tuL P q) W)) := fun W hW => tu_use ST.out G.out HN.out ap cp hpc W (rd_ext RP.out hW)
  obtain ⟨d, hd⟩ : ∃ d : Nat, sN (wt P) n + 1 - q = d := ⟨_, rfl⟩
  have QS2 : Hid (∀ W, Below w2.heap.size w2 W → Calls Try.prog 10 #[.slice ap n cp, .int .i64 d] W (PwOut n (swL P q) W)) := fun W hW => by
    have q1 := sw_use SS.out G.out.dual HN.out ap cp hpc W (rd_ext RP.out hW)
    rw [sw_dualL G.out, hn, hd] at q1
    exact q1
  have QT2 : Hid (∀ W, Below w2.heap.size w2 W → Calls Try.prog 11 #[.slice ap n cp, .int .i64 d] W (PwOut n (tuL P q) W)) := fun W hW => by
    have q1 := tu_use ST.out G.out.dual HN.out ap cp hpc W (rd_ext RP.out hW)
    rw [tu_dualL G.out, hn, hd] at q1
    exact q1
  have hds : ((sN (wt P) n : Nat) : Int) + 1 - (q : Int) = (d : Int) := by omega
  clear hn hd SS ST RP
  generalize sN (wt P) n = S at *
  generalize swL P q = sl at *
  generalize tuL P q = tl at *
  go_wp2_with fail
  refine (QS.out w2 (Below.refl _ _)).mono ?_
  rintro e w3 ⟨a3, c3, rfl, r3, hb3⟩
  go_wp2_with fail
  refine (QN.out w3 hb3).mono ?_
  rintro e w3' ⟨rfl, rfl⟩
  go_wp2_with fail
  refine (QS2.out w3 hb3).mono ?_
  rintro e w4 ⟨a4, c4, rfl, r4, hb4⟩
  have hb24 := ext_trans hb3 hb4
  have r34 := rd_ext r3 hb4
  clear hb3 hb4 r3 QS QS2
  go_wp2_with fail
  refine (QT.out w4 hb24).mono ?_
  rintro e w5 ⟨a5, c5, rfl, r5, hb5⟩
  have hb25 := ext_trans hb24 hb5
  have r35 := rd_ext r34 hb5
  have r45 := rd_ext r4 hb5
  clear hb24 hb5 r34 r4 QT
  go_wp2_with fail
  refine (QN.out w5 hb25).mono ?_
  rintro e w5' ⟨rfl, rfl⟩
  go_wp2_with fail
  refine (QT2.out w5 hb25).mono ?_
  rintro e w6 ⟨a6, c6, rfl, r6, hb6⟩
  have hb06 := ext_trans hb02 (ext_trans hb25 hb6)
  have r36 := rd_ext r35 hb6
  have r46 := rd_ext r45 hb6
  have r56 := rd_ext r5 hb6
  clear hb25 hb6 r35 r45 r5 QT2 QN hb02
  go_wp2_with fail
  refine (good_zero w6.heap.size 0 4 4 _ (by omega) (zeros_at w6 23 4 #[.int .i64 0, .int .i64 0, .int .i64 0, .int .i64 0] rfl)).mono ?_
  rintro e w7 ⟨rfl, rfl⟩
  have b7 : Below w6.heap.size w6 (w6.alloc (.cells #[.int .i64 0, .int .i64 0, .int .i64 0, .int .i64 0] 23)) := (Below.refl _ _).alloc (Nat.le_refl _) _
  have hb07 := ext_trans hb06 b7
  have r37 := rd_ext r36 b7
  have r47 := rd_ext r46 b7
  have r57 := rd_ext r56 b7
  have r67 := rd_ext r6 b7
  clear b7 hb06 r36 r46 r56 r6
  generalize w6.alloc (.cells #[.int .i64 0, .int .i64 0, .int .i64 0, .int .i64 0] 23) = w7 at *
  have QE := Lib.hid (equal_ext sl sl a3 a4 n c3 n c4 w7 r37 r47 (by omega) (by omega))
  rw [show decide (sl = sl) = true from decide_eq_true rfl] at QE
  go_wp2_with fail
  refine QE.out.mono ?_
  rintro e w8 ⟨rfl, hb8⟩
  have QE2 := Lib.hid (equal_ext tl tl a5 a6 n c5 n c6 w8 (rd_ext r57 hb8) (rd_ext r67 hb8) (by omega) (by omega))
  rw [show decide (tl = tl) = true from decide_eq_true rfl] at QE2
  have hb08 := ext_trans hb07 hb8
  clear QE r37 r47 r57 r67 hb8 hb07
  go_wp2_with fail
  refine QE2.out.mono ?_
  rintro e w9 ⟨rfl, hb9⟩
  have hb09 := ext_trans hb08 hb9
  clear QE2 hb08 hb9
  go_wp2
  go_ret
  exact ⟨rfl, hb09⟩
end Go.Proofs.Ytdoidajdfnbiiaa

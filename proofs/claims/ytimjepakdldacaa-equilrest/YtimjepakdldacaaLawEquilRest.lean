/-
  plumekeep.EquilRest returns true, for every two slices of slices of ints, if package equil keeps its contracts; nothing that was there is written.
-/
import Derived.Test.YtimjepakdldacaaLawEquilRest0
import Derived.Test.YtimjepakdldacaaCContains
import Derived.Test.YtimjepakdldacaaBox2
import Derived.BigQuiet
import Derived.Deep.QuietTactic
import Derived.BigRegion
import Derived.RegionTactic
import Derived.Deep.RegionLaw
import Derived.Deep.RegionHeld3
namespace Go.Proofs.Ytimjepakdldacaa
open Go.RowKit Fm
set_option linter.unusedVariables false

set_option maxHeartbeats 4000000 in
set_option maxRecDepth 100000 in
theorem equilRest_is (eRE : ERestE) (eR : ERest) (eLE : ELeftE) (eL : ELeft) (va : Value) (A : List (List Int)) {w : World} (fa : IsRows w va A) (vb : Value) (B : List (List Int)) (fb : IsRows w vb B) :
    Calls Try.prog 4 #[va, vb] w fun e w' => e = .returned (.bool true) ∧ Below w.heap.size w w' := by
  obtain ⟨a, c, rfl, hra, halla, hlca, _, hcma, h24a⟩ := fa
  obtain ⟨b, d, rfl, hrb, hallb, hlcb, _, hcmb, h24b⟩ := fb
  have TA := tab_in (c := c) hra h24a halla
  have TB := tab_in (c := d) hrb h24b hallb
  have W0 := Lib.hid (equils_any eR eL w)
  by_cases h0 : echk A B = 0
  · have g := echk_ok h0
    obtain ⟨r, hrl⟩ : ∃ r, A.length = r := ⟨_, rfl⟩
    obtain ⟨k, hk⟩ : ∃ k, (A.getD 0 []).length = k := ⟨_, rfl⟩
    rw [hrl, hk] at g
    have QR : Hid (∀ W, Below w.heap.size w W → Calls Try.prog 9 #[.slice a A.length c, .slice b B.length d] W (PairsOut (eqA A B k r) W)) := fun W hW => eR r k a A.length c A b B.length d B W (TA.below hW) (TB.below hW) g
    have QL : Hid (∀ W, Below w.heap.size w W → Calls Try.prog 10 #[.slice a A.length c, .slice b B.length d] W (LeftOut A B r k W)) := fun W hW => eL r k a A.length c A b B.length d B W (TA.below hW) (TB.below hW) g
    have HG := Lib.hid g
    have h36 := eq36 g
    have hr6 := g.a.r6
    have hk6 := g.a.k6
    unfold PairsOut at QR
    unfold LeftOut at QL
    clear h0 hra hrb halla hallb TA TB hrl hk g h24a h24b hlca hlcb
    generalize A.length = na at *
    generalize B.length = nb at *
    go_enter Try.func4, Try.ntmps4
    go_wp2_with fail
    refine W0.out.mono ?_
    rintro e w1 ⟨rfl, hb1⟩
    clear W0
    go_wp2_with fail
    refine (QR.out w1 hb1).mono ?_
    rintro e w2 ⟨a3, c3, rfl, hc3, hm3, r3, hb2⟩
    have hb02 := ext_trans hb1 hb2
    have R3 := Lib.hid r3
    clear QR hb1 hb2 r3
    go_wp2_with fail
    refine (QL.out w2 hb02).mono ?_
    rintro e w3 ⟨R, C, he, a4, c4, a5, c5, rfl, hc4, hc5, r4, r5, hb3⟩
    have hb03 := ext_trans hb02 hb3
    have HON := Lib.hid (eq_only HG.out he)
    have HKE := Lib.hid (eq_kept HG.out he)
    have hsm := reach_some HG.out.a (cols_pay HG.out.b) he.reach
    have hX1 := kept_pos hsm.1
    have hY1 := kept_pos hsm.2
    have hX6 := keptL_le r R
    have hY6 := keptL_le k C
    have R3' := Lib.hid (rd2_ext R3.out hb3)
    have R4 := Lib.hid r4
    have R5 := Lib.hid r5
    clear QL hb02 hb3 r4 r5 R3 he hsm
    generalize eqA A B k r = ps at *
    generalize keptL r R = X at *
    generalize keptL k C = Y at *
    go_wp2_with fail
    go_loopw [49] (fun iv wr => ∃ i : Nat, i ≤ ps.length ∧ iv = .int .i64 i ∧ Below w3.heap.size w3 wr) (fun iv _ => ps.length - (intOf iv).toNat)
    case atStart => exact ⟨0, Nat.zero_le _, rfl, Below.refl _ w3⟩
    case round =>
      obtain ⟨i, hi, rfl, hbl⟩ := hrel
      by_cases hip : i < ps.length
      · obtain ⟨bp, op, rfl, hbp, q1, q2⟩ := R3'.out.at_ hip
        have t1 := (hbl.cell (by exact hbp)).trans q1
        have t2 := (hbl.cell (by exact hbp)).trans q2
        have hmem : ps.getD i (0, 0) ∈ ps := by rw [List.getD_eq_getElem?_getD, List.getElem?_eq_getElem hip]; exact List.getElem_mem hip
        obtain ⟨m1, m2⟩ := HKE.out _ hmem
        obtain ⟨x, hx⟩ : ∃ x, (ps.getD i (0, 0)).1 = x := ⟨_, rfl⟩
        obtain ⟨y, hy⟩ : ∃ y, (ps.getD i (0, 0)).2 = y := ⟨_, rfl⟩
        rw [hx] at t1 m1
        rw [hy] at t2 m2
        have hba : Below wr.heap.size wr (wr.alloc (.cells #[.int .i64 x, .int .i64 y] 34)) := (Below.refl _ wr).alloc (Nat.le_refl _) _
        have hbN : Below w3.heap.size w3 (wr.alloc (.cells #[.int .i64 x, .int .i64 y] 34)) := hbl.alloc hbl.size _
        have CX := Lib.hid (contains_q X x a4 X.length c4 (wr.alloc (.cells #[.int .i64 x, .int .i64 y] 34)) _ (rd_ext R4.out hbN) (by omega) true (decide_eq_true m1))
        have CY := Lib.hid (contains_q Y y a5 Y.length c5 (wr.alloc (.cells #[.int .i64 x, .int .i64 y] 34)) _ (rd_ext R5.out hbN) (by omega) true (decide_eq_true m2))
        clear hx hy hmem m1 m2 q1 q2 hba
        go_wp2_with fail
        refine CX.out.mono ?_
        rintro e w5 ⟨rfl, rfl⟩
        go_wp2_with fail
        refine CY.out.mono ?_
        rintro e w5 ⟨rfl, rfl⟩
        go_wp2
        go_roundw
        case rel => exact ⟨i + 1, by omega, by go_num, hbN⟩
        case measure => simp [intOf]; omega
      · obtain rfl : i = ps.length := by omega
        have hbF : Below w.heap.size w wr := hb03.trans (hbl.mono hb03.size)
        have X4 := Lib.hid (rd_ext R4.out hbl)
        have Y4 := Lib.hid (rd_ext R5.out hbl)
        have P4 := Lib.hid (rd2_ext R3'.out hbl)
        clear R4 R5 R3' hbl HKE hb03
        obtain ⟨nx, hnx⟩ : ∃ nx, X.length = nx := ⟨_, rfl⟩
        obtain ⟨ny, hny⟩ : ∃ ny, Y.length = ny := ⟨_, rfl⟩
        rw [hnx] at X4 HON hX1 hX6 hc4 ⊢
        rw [hny] at Y4 HON hY1 hY6 hc5 ⊢
        have f1 : decide (0 < nx) = true := decide_eq_true (by omega)
        have f1' : decide ((0 : Int) < (nx : Int)) = true := decide_eq_true (by omega)
        have f2 : decide (0 < ny) = true := decide_eq_true (by omega)
        have f2' : decide ((0 : Int) < (ny : Int)) = true := decide_eq_true (by omega)
        clear hnx hny
        by_cases q1 : 1 < nx
        · have g1 : decide (1 < nx) = true := decide_eq_true q1
          have g1' : decide ((1 : Int) < (nx : Int)) = true := decide_eq_true (by omega)
          clear HON X4 Y4 P4
          go_wp2_with fail
          go_quiet (fail)
          go_wp2
          go_ret
          exact ⟨rfl, below_drewN hbF _⟩
        · have g1 : decide (1 < nx) = false := decide_eq_false q1
          have g1' : decide ((1 : Int) < (nx : Int)) = false := decide_eq_false (by omega)
          by_cases q2 : 1 < ny
          · have g2 : decide (1 < ny) = true := decide_eq_true q2
            have g2' : decide ((1 : Int) < (ny : Int)) = true := decide_eq_true (by omega)
            clear HON X4 Y4 P4
            go_wp2_with fail
            go_quiet (fail)
            go_wp2
            go_ret
            exact ⟨rfl, below_drewN hbF _⟩
          · obtain rfl : nx = 1 := by omega
            obtain rfl : ny = 1 := by omega
            have hps := HON.out rfl rfl
            obtain ⟨bx, ox, rfl, hbx, cx⟩ := X4.out.at_ (k := 0) (by omega)
            obtain ⟨by', oy, rfl, hby, cy⟩ := Y4.out.at_ (k := 0) (by omega)
            rw [Nat.add_zero] at cx cy
            have P5 := P4.out
            rw [hps] at P5 ⊢
            generalize X.getD 0 0 = x0 at *
            generalize Y.getD 0 0 = y0 at *
            have hbN : Below w.heap.size w (wr.alloc (.cells #[.int .i64 x0, .int .i64 y0] 34)) := hbF.alloc hbF.size _
            have QE : Hid (Calls Try.prog 14 #[.slice a3 1 c3, .slice (some ⟨wr.heap.size, 0, none⟩) 1 1] (wr.alloc (.cells #[.int .i64 x0, .int .i64 y0] 34)).drew fun e w' => e = .returned (.bool true) ∧ ∃ j, w' = (wr.alloc (.cells #[.int .i64 x0, .int .i64 y0] 34)).drew.drewN j) := by
              have hba : Below wr.heap.size wr (wr.alloc (.cells #[.int .i64 x0, .int .i64 y0] 34)).drew := below_drewN ((Below.refl _ wr).alloc (Nat.le_refl _) _) 1
              have := equal2_any [(x0, y0)] [(x0, y0)] a3 (some ⟨wr.heap.size, 0, none⟩) 1 c3 1 1 (wr.alloc (.cells #[.int .i64 x0, .int .i64 y0] 34)).drew _ (rd2_ext P5 hba) (rd2_lit1 wr 34 x0 y0) (by omega) (by omega)
              rw [decide_eq_true rfl] at this
              exact this
            have HS0 : Hid (wr.drew.cell? ⟨bx, ox, none⟩ = some (.int .i64 x0) ∧ wr.drew.cell? ⟨by', oy, none⟩ = some (.int .i64 y0)) := ⟨cx, cy⟩
            have HS1 : Hid (((wr.alloc (.cells #[.int .i64 x0, .int .i64 y0] 34)).drew).cell? ⟨bx, ox, none⟩ = some (.int .i64 x0) ∧ ((wr.alloc (.cells #[.int .i64 x0, .int .i64 y0] 34)).drew).cell? ⟨by', oy, none⟩ = some (.int .i64 y0)) := ⟨(World.cell?_alloc_lt wr _ _ hbx).trans cx, (World.cell?_alloc_lt wr _ _ hby).trans cy⟩
            have HS2 : Hid (∀ j, ((wr.alloc (.cells #[.int .i64 x0, .int .i64 y0] 34)).drew.drewN j).cell? ⟨bx, ox, none⟩ = some (.int .i64 x0) ∧ ((wr.alloc (.cells #[.int .i64 x0, .int .i64 y0] 34)).drew.drewN j).cell? ⟨by', oy, none⟩ = some (.int .i64 y0)) := fun j => HS1.out
            clear HON X4 Y4 P4 P5 hps f1 f1' f2 f2' g1 g1' q1 q2
            have f1 : decide ((0 : Int) < 1) = true := rfl
            go_wp2_with fail
            go_region_held3 (fun w' => w'.cell? ⟨bx, ox, none⟩ = some (.int .i64 x0) ∧ w'.cell? ⟨by', oy, none⟩ = some (.int .i64 y0)) (first | exact HS0.out | exact HS1.out | exact HS2.out _ | assumption)
              (first
                | (go_at_call 14; with_reducible refine QE.out.mono ?_; rintro e w8 ⟨rfl, j8, rfl⟩))
            all_goals
              go_wp2
              go_ret
              exact ⟨rfl, below_drewN hbN _⟩
  · have QR : Hid (∀ W, Below w.heap.size w W → Calls Try.prog 9 #[.slice a A.length c, .slice b B.length d] W (ErrOut (echk A B) W)) := fun W hW => eRE a A.length c A b B.length d B W (TA.below hW) (TB.below hW) h0
    have QL : Hid (∀ W, Below w.heap.size w W → Calls Try.prog 10 #[.slice a A.length c, .slice b B.length d] W (TwoErr (echk A B) W)) := fun W hW => eLE a A.length c A b B.length d B W (TA.below hW) (TB.below hW) h0
    have hne : (echk A B != 0) = true := by simpa using h0
    unfold ErrOut at QR
    unfold TwoErr at QL
    clear h0 hra hrb halla hallb TA TB
    generalize echk A B = rr at *
    generalize A.length = na at *
    generalize B.length = nb at *
    go_enter Try.func4, Try.ntmps4
    go_wp2_with fail
    refine W0.out.mono ?_
    rintro e w1 ⟨rfl, hb1⟩
    clear W0
    go_wp2_with fail
    refine (QR.out w1 hb1).mono ?_
    rintro e w2 ⟨a3, c3, rfl, hb2⟩
    have hb02 := ext_trans hb1 hb2
    clear QR hb1 hb2
    go_wp2_with fail
    refine (QL.out w2 hb02).mono ?_
    rintro e w3 ⟨a4, c4, a5, c5, rfl, hb3⟩
    have hb03 := ext_trans hb02 hb3
    clear QL hb02 hb3
    go_wp2
    go_ret
    exact ⟨by first | rfl | simp, hb03⟩
end Go.Proofs.Ytimjepakdldacaa

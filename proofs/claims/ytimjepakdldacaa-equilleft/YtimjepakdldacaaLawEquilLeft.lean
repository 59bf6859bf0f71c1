/-
  plumekeep.EquilLeft returns true, for every two slices of slices of ints, if package equil keeps its contracts; nothing that was there is written.
-/
import Derived.Test.YtimjepakdldacaaLawEquilRest0
import Derived.Test.YtimjepakdldacaaCPartG
import Derived.BigQuiet
import Derived.Deep.QuietTactic
namespace Go.Proofs.Ytimjepakdldacaa
open Go.RowKit Fm
set_option linter.unusedVariables false

theorem part_ent {M : List (List Int)} {X Y : List Int} {i j : Nat} (hi : i < X.length) (hj : j < Y.length) : ent (partT M X Y) i j = ent M (X.getD i 0).toNat (Y.getD j 0).toNat := by
  show ((partT M X Y).getD i []).getD j 0 = _
  unfold partT
  rw [List.getD_eq_getElem?_getD (i := i), List.getElem?_map, List.getElem?_eq_getElem hi]
  show (partR M Y X[i]).getD j 0 = _
  unfold partR
  rw [List.getD_eq_getElem?_getD (i := j), List.getElem?_map, List.getElem?_eq_getElem hj, List.getD_eq_getElem?_getD (l := X), List.getElem?_eq_getElem hi, List.getD_eq_getElem?_getD (l := Y), List.getElem?_eq_getElem hj]
  rfl
theorem part_pay {r k : Nat} {M : List (List Int)} (p : Pay r k M) {X Y : List Int} (hX : 1 ≤ X.length ∧ X.length ≤ 6) (hY : 1 ≤ Y.length ∧ Y.length ≤ 6) : Pay X.length Y.length (partT M X Y) where
  len := by simp [partT]
  r1 := hX.1
  r6 := hX.2
  k1 := hY.1
  k6 := hY.2
  rows l hl := by
    unfold partT at hl
    rw [List.mem_map] at hl
    obtain ⟨x, hx, rfl⟩ := hl
    simp [partR]
  bd l hl x hx := by
    unfold partT at hl
    rw [List.mem_map] at hl
    obtain ⟨q, hq, rfl⟩ := hl
    unfold partR at hx
    rw [List.mem_map] at hx
    obtain ⟨y, hy, rfl⟩ := hx
    exact p.ent _ _
theorem kept_at {n : Nat} {R : Nat → Bool} {i : Nat} (hi : i < (keptL n R).length) : ((keptL n R).getD i 0).toNat < n ∧ R ((keptL n R).getD i 0).toNat = true := by
  obtain ⟨y, hy, h1, h2⟩ := mem_keptL.1 (getD_mem (keptL n R) i hi)
  rw [hy, Int.toNat_natCast]
  exact ⟨h1, h2⟩
theorem kept_all {n : Nat} {R : Nat → Bool} (h : ∀ i, i < n → R i = true) : (keptL n R).length = n := by
  unfold keptL
  rw [List.filter_eq_self.2 (fun x hx => by have := mem_sides.1 hx; exact h _ (by omega)), sides_len]
theorem part_end {r k : Nat} {A B : List (List Int)} (g : Gam r k A B) {R C : Nat → Bool} (e : EndS A (colsM k B) r k R C) (hX : 1 ≤ (keptL r R).length ∧ (keptL r R).length ≤ 6) (hY : 1 ≤ (keptL k C).length ∧ (keptL k C).length ≤ 6) {R' C' : Nat → Bool}
    (e' : EndS (partT A (keptL r R) (keptL k C)) (colsM (keptL k C).length (partT B (keptL r R) (keptL k C))) (keptL r R).length (keptL k C).length R' C') : (keptL (keptL r R).length R').length = (keptL r R).length ∧ (keptL (keptL k C).length C').length = (keptL k C).length := by
  have h := part_all e.closed (fun i => ((keptL r R).getD i 0).toNat) (fun j => ((keptL k C).getD j 0).toNat) (fun i hi => kept_at hi) (fun j hj => kept_at hj)
    (fun x hx hR => by
      obtain ⟨i, hi, hx2⟩ := List.getElem_of_mem (mem_keptL.2 ⟨x, rfl, hx, hR⟩ : (x : Int) ∈ keptL r R)
      exact ⟨i, hi, by rw [List.getD_eq_getElem?_getD, List.getElem?_eq_getElem hi]; show (keptL r R)[i].toNat = x; rw [hx2, Int.toNat_natCast]⟩)
    (fun y hy hC => by
      obtain ⟨i, hi, hx2⟩ := List.getElem_of_mem (mem_keptL.2 ⟨y, rfl, hy, hC⟩ : (y : Int) ∈ keptL k C)
      exact ⟨i, hi, by rw [List.getD_eq_getElem?_getD, List.getElem?_eq_getElem hi]; show (keptL k C)[i].toNat = y; rw [hx2, Int.toNat_natCast]⟩)
    (fun i j hi hj => part_ent hi hj)
    (fun i j hi hj => by rw [cols_ent (part_pay g.b hX hY) hi hj, part_ent hi hj, cols_ent g.b (kept_at hi).1 (kept_at hj).1]) e'.reach
  exact ⟨kept_all h.1, kept_all h.2⟩

set_option maxHeartbeats 8000000 in
set_option maxRecDepth 100000 in
theorem equilLeft_is (eR : ERest) (eLE : ELeftE) (eL : ELeft) (va : Value) (A : List (List Int)) {w : World} (fa : IsRows w va A) (vb : Value) (B : List (List Int)) (fb : IsRows w vb B) :
    Calls Try.prog 6 #[va, vb] w fun e w' => e = .returned (.bool true) ∧ Below w.heap.size w w' := by
  obtain ⟨a, c, rfl, hra, halla, hlca, _, hcma, h24a⟩ := fa
  obtain ⟨b, d, rfl, hrb, hallb, hlcb, _, hcmb, h24b⟩ := fb
  have TA := tab_in (c := c) hra h24a halla
  have TB := tab_in (c := d) hrb h24b hallb
  have HRA := Lib.hid hra
  have HRB := Lib.hid hrb
  have W0 := Lib.hid (equils_any eR eL w)
  by_cases h0 : echk A B = 0
  · have g := echk_ok h0
    obtain ⟨r, hrl⟩ : ∃ r, A.length = r := ⟨_, rfl⟩
    obtain ⟨k, hk⟩ : ∃ k, (A.getD 0 []).length = k := ⟨_, rfl⟩
    rw [hrl, hk] at g
    have hbl : B.length = r := g.b.len
    have QL : Hid (∀ W, Below w.heap.size w W → Calls Try.prog 10 #[.slice a A.length c, .slice b B.length d] W (LeftOut A B r k W)) := fun W hW => eL r k a A.length c A b B.length d B W (TA.below hW) (TB.below hW) g
    have HEL := Lib.hid eL
    have HG := Lib.hid g
    have hr6 := g.a.r6
    have hk6 := g.a.k6
    unfold LeftOut at QL
    rw [hrl] at QL HRA ⊢
    rw [hbl] at QL HRB ⊢
    obtain ⟨_, ba, oa, rfl, hba, hsq⟩ := rdr_sqP HRA.out g.a
    obtain ⟨b0, o0, c0, hb0, hr0, _, _, _⟩ := hsq 0 g.a.r1
    rw [Nat.add_zero] at hr0
    clear h0 hra hrb halla hallb TA TB hrl hk g h24a h24b hlca hlcb hbl hsq eL
    go_enter Try.func6, Try.ntmps6
    go_wp2_with fail
    refine W0.out.mono ?_
    rintro e w1 ⟨rfl, hb1⟩
    clear W0
    go_wp2_with fail
    refine (QL.out w1 hb1).mono ?_
    rintro e w3 ⟨R, C, he, a4, c4, a5, c5, rfl, hc4, hc5, r4, r5, hb3⟩
    have hsm := reach_some HG.out.a (cols_pay HG.out.b) he.reach
    have hX1 := kept_pos hsm.1
    have hY1 := kept_pos hsm.2
    have hX6 : (keptL r R).length ≤ 6 := Nat.le_trans (keptL_le r R) hr6
    have hY6 : (keptL k C).length ≤ 6 := Nat.le_trans (keptL_le k C) hk6
    have HPE : Hid (∀ R' C', EndS (partT A (keptL r R) (keptL k C)) (colsM (keptL k C).length (partT B (keptL r R) (keptL k C))) (keptL r R).length (keptL k C).length R' C' → (keptL (keptL r R).length R').length = (keptL r R).length ∧ (keptL (keptL k C).length C').length = (keptL k C).length) := fun R' C' e' => part_end HG.out he ⟨hX1, hX6⟩ ⟨hY1, hY6⟩ e'
    have HMX : Hid (∀ x ∈ keptL r R, 0 ≤ x ∧ x < r) := fun x hx => by obtain ⟨y, rfl, h1, _⟩ := mem_keptL.1 hx; omega
    have HMY : Hid (∀ x ∈ keptL k C, 0 ≤ x ∧ x < k) := fun x hx => by obtain ⟨y, rfl, h1, _⟩ := mem_keptL.1 hx; omega
    have hb03 := ext_trans hb1 hb3
    have HX4 := Lib.hid r4
    have HY5 := Lib.hid r5
    have H03 := Lib.hid hb03
    clear QL hb1 hb3 r4 r5 he hsm
    generalize keptL r R = X at *
    generalize keptL k C = Y at *
    have u5 : ((w3.alloc (.cells #[.slice a4 X.length c4] 27)).alloc (.cells #[.slice a5 Y.length c5] 27)).cell? ⟨w3.heap.size, 0, none⟩ = some (.slice a4 X.length c4) := by rw [World.cell?_alloc_lt _ _ _ (by simp)]; simp [World.cell?_alloc_new]
    have u6 : ((w3.alloc (.cells #[.slice a4 X.length c4] 27)).alloc (.cells #[.slice a5 Y.length c5] 27)).cell? ⟨w3.heap.size + 1, 0, none⟩ = some (.slice a5 Y.length c5) := by
      have : w3.heap.size + 1 = (w3.alloc (.cells #[.slice a4 X.length c4] 27)).heap.size := by simp
      rw [this, World.cell?_alloc_new]; rfl
    have hb4 : Below w3.heap.size w3 ((w3.alloc (.cells #[.slice a4 X.length c4] 27)).alloc (.cells #[.slice a5 Y.length c5] 27)) := ((Below.refl _ w3).alloc (Nat.le_refl _) _).alloc (by simp) _
    have hs4 : w3.heap.size + 1 < ((w3.alloc (.cells #[.slice a4 X.length c4] 27)).alloc (.cells #[.slice a5 Y.length c5] 27)).heap.size := by simp
    have H04 := Lib.hid (ext_trans hb03 hb4)
    have HX := Lib.hid (rd_ext HX4.out hb4)
    have HY := Lib.hid (rd_ext HY5.out hb4)
    clear hb03 hb4 HX4 HY5 H03
    have s0 := (H04.out.cell (p := ⟨ba, oa, none⟩) (by exact hba)).trans hr0
    go_wp2_with fail
    generalize (w3.alloc (.cells #[.slice a4 X.length c4] 27)).alloc (.cells #[.slice a5 Y.length c5] 27) = w4 at *
    generalize w3.heap.size = g3 at *
    obtain ⟨nx, hnx⟩ : ∃ nx, X.length = nx := ⟨_, rfl⟩
    obtain ⟨ny, hny⟩ : ∃ ny, Y.length = ny := ⟨_, rfl⟩
    have HNX := Lib.hid hnx
    have HNY := Lib.hid hny
    rw [hnx] at HX u5 hX1 hX6 hc4 ⊢
    rw [hny] at HY u6 hY1 hY6 hc5 ⊢
    clear hnx hny
    go_loop [36] (fun iv => ∃ i : Nat, i ≤ nx ∧ iv = .int .i64 i) (fun iv => nx - (intOf iv).toNat)
    case atStart => exact ⟨0, Nat.zero_le _, rfl⟩
    case round =>
      obtain ⟨i, hi, rfl⟩ := hrel
      by_cases hin : i < nx
      · obtain ⟨bx, ox, rfl, hbx, hcx⟩ := HX.out.at_ hin
        obtain ⟨m1, m2⟩ := HMX.out _ (getD_mem X i (by rw [HNX.out]; exact hin))
        generalize X.getD i 0 = x at *
        have d1 : decide (x < 0) = false := decide_eq_false (by omega)
        have d2 : decide ((r : Int) ≤ x) = false := decide_eq_false (by omega)
        go_wp2
        go_round
        case rel => exact ⟨i + 1, by omega, by go_num⟩
        case measure => simp [intOf]; omega
      · obtain rfl : i = nx := by omega
        go_wp2_with fail
        go_loop [51] (fun iv => ∃ j : Nat, j ≤ ny ∧ iv = .int .i64 j) (fun iv => ny - (intOf iv).toNat)
        case atStart => exact ⟨0, Nat.zero_le _, rfl⟩
        case round =>
          obtain ⟨j, hj, rfl⟩ := hrel
          by_cases hjn : j < ny
          · obtain ⟨bx, ox, rfl, hbx, hcx⟩ := HY.out.at_ hjn
            obtain ⟨m1, m2⟩ := HMY.out _ (getD_mem Y j (by rw [HNY.out]; exact hjn))
            generalize Y.getD j 0 = x at *
            have d1 : decide (x < 0) = false := decide_eq_false (by omega)
            have d2 : decide ((k : Int) ≤ x) = false := decide_eq_false (by omega)
            have e1 : 0 < r := HG.out.a.r1
            have e2 : (0 : Int) < (r : Int) := by omega
            go_wp2
            go_round
            case rel => exact ⟨j + 1, by omega, by go_num⟩
            case measure => simp [intOf]; omega
          · obtain rfl : j = ny := by omega
            have QA : Hid (Calls Try.prog 21 #[.slice (some ⟨ba, oa, none⟩) r c, .pointer (some ⟨g3, 0, none⟩), .pointer (some ⟨g3 + 1, 0, none⟩)] w4 fun e w' => ∃ v, e = .returned v ∧ RL w' w4.heap.size v i (partT A X Y) ∧ Below w4.heap.size w4 w') := by
              have hx6 : X.length ≤ 6 := by rw [HNX.out]; exact hX6
              have hy6 : Y.length ≤ 6 := by rw [HNY.out]; exact hY6
              have := partG_any HG.out.a HMX.out HMY.out hx6 hy6 (some ⟨ba, oa, none⟩) r c a4 a5 c4 c5 g3 (g3 + 1) w4 (rdr_ext HRA.out H04.out) (by rw [HNX.out]; exact HX.out) (by rw [HNY.out]; exact HY.out) (by omega) hs4 (by rw [HNX.out]; exact u5) (by rw [HNY.out]; exact u6)
              rw [HNX.out] at this
              exact this
            have QB : Hid (∀ W, Below w4.heap.size w4 W → Calls Try.prog 21 #[.slice b r d, .pointer (some ⟨g3, 0, none⟩), .pointer (some ⟨g3 + 1, 0, none⟩)] W fun e w' => ∃ v, e = .returned v ∧ RL w' W.heap.size v i (partT B X Y) ∧ Below W.heap.size W w') := fun W hW => by
              have hx6 : X.length ≤ 6 := by rw [HNX.out]; exact hX6
              have hy6 : Y.length ≤ 6 := by rw [HNY.out]; exact hY6
              have hz := hW.size
              have := partG_any HG.out.b HMX.out HMY.out hx6 hy6 b r d a4 a5 c4 c5 g3 (g3 + 1) W (rdr_ext HRB.out (H04.out.trans (hW.mono H04.out.size))) (by rw [HNX.out]; exact rd_ext HX.out hW) (by rw [HNY.out]; exact rd_ext HY.out hW) (by omega) (by omega)
                (by rw [HNX.out]; exact (hW.cell (p := ⟨g3, 0, none⟩) (by show g3 < _; omega)).trans u5) (by rw [HNY.out]; exact (hW.cell (p := ⟨g3 + 1, 0, none⟩) (by exact hs4)).trans u6)
              rw [HNX.out] at this
              exact this
            have PA : Hid (Gam i j (partT A X Y) (partT B X Y)) := by
              have hx : 1 ≤ X.length ∧ X.length ≤ 6 := by rw [HNX.out]; exact ⟨hX1, hX6⟩
              have hy : 1 ≤ Y.length ∧ Y.length ≤ 6 := by rw [HNY.out]; exact ⟨hY1, hY6⟩
              have q1 := part_pay HG.out.a hx hy
              have q2 := part_pay HG.out.b hx hy
              rw [HNX.out, HNY.out] at q1 q2
              exact ⟨q1, q2⟩
            rw [HNX.out, HNY.out] at HPE
            go_wp2_with fail
            refine QA.out.mono ?_
            rintro e w7 ⟨v7, rfl, RL7, hb7⟩
            have HRL7 := Lib.hid RL7
            clear QA RL7
            go_wp2_with fail
            refine (QB.out w7 hb7).mono ?_
            rintro e w8 ⟨v8, rfl, RL8, hb8⟩
            have HRL8 := Lib.hid RL8
            have RL7 := HRL7.out.below hb8
            have hb48 := ext_trans hb7 hb8
            obtain ⟨vs7, x7, _, _⟩ := RL7
            obtain ⟨vs8, x8, _, _⟩ := RL8
            obtain ⟨a7, c7, rfl, _, _, _, _⟩ := own_sliceV x7
            obtain ⟨a8, c8, rfl, _, _, _, _⟩ := own_sliceV x8
            have T7 := tabIn_pay (HRL7.out.below hb8).rdr PA.out.a
            have T8 := tabIn_pay HRL8.out.rdr PA.out.b
            have Q9 := Lib.hid (HEL.out i j a7 i c7 (partT A X Y) a8 i c8 (partT B X Y) w8 T7 T8 PA.out)
            unfold LeftOut at Q9
            have t5 := (hb48.cell (p := ⟨g3, 0, none⟩) (by show g3 < _; omega)).trans u5
            have t6 := (hb48.cell (p := ⟨g3 + 1, 0, none⟩) (by exact hs4)).trans u6
            have hs8 : g3 + 1 < w8.heap.size := Nat.lt_of_lt_of_le hs4 hb48.size
            clear QB hb7 hb8 x7 x8 T7 T8 HRL7 HRL8 u5 u6
            go_wp2_with fail
            refine Q9.out.mono ?_
            rintro e w9 ⟨R', C', he', a9, c9, a10, c10, rfl, _, _, _, _, hb9⟩
            obtain ⟨l1, l2⟩ := HPE.out R' C' he'
            rw [l1, l2]
            have y5 := (hb9.cell (p := ⟨g3, 0, none⟩) (by show g3 < _; omega)).trans t5
            have y6 := (hb9.cell (p := ⟨g3 + 1, 0, none⟩) (by exact hs8)).trans t6
            have hbe := ext_trans H04.out (ext_trans hb48 hb9)
            clear Q9 he' l1 l2 t5 t6 hb48 hb9
            go_wp2
            go_ret
            exact ⟨by first | rfl | simp, hbe⟩
  · have QL : Hid (∀ W, Below w.heap.size w W → Calls Try.prog 10 #[.slice a A.length c, .slice b B.length d] W (TwoErr (echk A B) W)) := fun W hW => eLE a A.length c A b B.length d B W (TA.below hW) (TB.below hW) h0
    have hne : (echk A B != 0) = true := by simpa using h0
    unfold TwoErr at QL
    clear h0 hra hrb halla hallb TA TB
    generalize echk A B = rr at *
    generalize A.length = na at *
    generalize B.length = nb at *
    go_enter Try.func6, Try.ntmps6
    go_wp2_with fail
    refine W0.out.mono ?_
    rintro e w1 ⟨rfl, hb1⟩
    clear W0
    go_wp2_with fail
    refine (QL.out w1 hb1).mono ?_
    rintro e w3 ⟨a4, c4, a5, c5, rfl, hb3⟩
    have hb03 := ext_trans hb1 hb3
    clear QL hb1 hb3
    go_wp2
    go_ret
    exact ⟨by first | rfl | simp, ((hb03.alloc hb03.size _).alloc (Nat.le_trans hb03.size (by simp)) _)⟩
end Go.Proofs.Ytimjepakdldacaa

/-
  plumekeep.MixedBest returns true, for every slice of slices of ints and two ints, if mixed.Solve keeps its contract; nothing that was there is written.
-/
import Derived.Test.YtilgoinbajmamaaLawMixedBounds
import Derived.Test.YtilgoinbajmamaaCGives
import Derived.Test.YtilgoinbajmamaaCWithin
namespace Go.Proofs.Ytilgoinbajmamaa
open Go.RowKit Fm
set_option linter.unusedVariables false

set_option maxHeartbeats 4000000 in
set_option maxRecDepth 100000 in
theorem mixedBest_is (mE : MSolveE) (mS : MSolve) (v : Value) (L : List (List Int)) {w : World} (f : IsRows w v L) (i0 : Int) (hi0 : -9223372036854775808 ≤ i0) (hi1 : i0 ≤ 9223372036854775807) (k0 : Int) (hk0 : -9223372036854775808 ≤ k0) (hk1 : k0 ≤ 9223372036854775807) :
    Calls Try.prog 4 #[v, .int .i64 i0, .int .i64 k0] w fun e w' => e = .returned (.bool true) ∧ Below w.heap.size w w' := by
  obtain ⟨a, c, rfl, hr, hall, hlc, _, hcm, h24⟩ := f
  have W0 := Lib.hid (mixes_any mS w)
  have Q2 : Hid (∀ W, Below w.heap.size w W → Calls Try.prog 12 #[.slice a L.length c] W fun e w' => e = .returned (.slice a (min L.length 2) c) ∧ W = w') := fun W hW => two_any a L.length c L W (rdr_ext hr hW) (by omega) hlc (by unfold maxLen at hcm; omega)
  have HT := Lib.hid (cut_in hr h24 hall).2
  have HRR := Lib.hid (cut_in hr h24 hall).1
  have hgd := ratioGuard
  have h00 : ∀ w, (Op.equalIn 10000 24 (.agg #[.int .i64 0, .int .i64 0]) (.agg #[.int .i64 0, .int .i64 0])).run Try.prog w = .ok true w := fun w => by rw [ratioIn]; rfl
  clear hr hall h24
  generalize L.take (min L.length 2) = M at *
  generalize min L.length 2 = n at *
  go_enter Try.func4, Try.ntmps4
  go_wp2_with fail
  refine W0.out.mono ?_
  rintro e w2 ⟨rfl, hb02⟩
  clear W0
  go_wp2_with fail
  refine (Q2.out w2 hb02).mono ?_
  rintro e w2' ⟨rfl, rfl⟩
  clear Q2
  by_cases h0 : mxchk M = 0
  · obtain ⟨_, p⟩ := mxchk_ok h0
    obtain ⟨k, hk⟩ : ∃ k, (M.getD 0 []).length = k := ⟨_, rfl⟩
    rw [hk] at p
    have HPAY := Lib.hid p
    have k1 := p.k1
    have k6 := p.k6
    have QS := Lib.hid (mS k a n c M w2 (HT.out.below hb02) p)
    clear h0 hk mE mS
    go_wp2_with fail
    refine QS.out.mono ?_
    rintro e w3 ⟨P, Q, V, W, hs, rfl, hb3⟩
    have hb03 := ext_trans hb02 hb3
    obtain ⟨u1, u2, u3, u4, hsz, hbx⟩ := boxes2 w3 24 P Q V W
    have hb04 := ext_trans hb03 hbx
    have l5 := sol_bd hs p
    have w1' := hs.w1
    have wb' := hs.wb
    have q1' := hs.q1
    have qb' := hs.qb
    have p0' := hs.p0
    have pq' := hs.pq
    have QG : Hid (∀ W', Below w.heap.size w W' → Calls Try.prog 13 #[.slice a n c, .int .i64 P, .int .i64 Q, .agg #[.int .i64 V, .int .i64 W]] W' fun e w' => e = .returned (.bool true) ∧ Below W'.heap.size W' w') := fun W' hW => gives_any p p0' pq' (by omega) l5 w1' wb' hs.sure a n c W' (rdr_ext HRR.out hW)
    have d1 : decide (Q < 1) = false := decide_eq_false (by omega)
    have d2 : decide (W < 1) = false := decide_eq_false (by omega)
    have d3 : decide (P < 0) = false := decide_eq_false (by omega)
    have d4 : decide (Q < P) = false := decide_eq_false (by omega)
    -- the way to choose that is tried
    obtain ⟨q, hq⟩ : ∃ q : Int, 1 + k0 % 5000 = q := ⟨_, rfl⟩
    have hq1 : 1 ≤ q := by omega
    have hq5 : q ≤ 5000 := by omega
    obtain ⟨x, hx⟩ : ∃ x : Int, i0 % (q + 1) = x := ⟨_, rfl⟩
    have hx0 : 0 ≤ x := by rw [← hx]; exact Int.emod_nonneg _ (by omega)
    have hxq : x ≤ q := by have := Int.emod_lt_of_pos i0 (show (0 : Int) < q + 1 by omega); omega
    have HQ : Hid (∃ y, y < k ∧ W * mval M x q y ≤ V * q) := hs.most x q hx0 hxq hq1
    have HP : Hid (∀ y, y < k → ∃ A B C D : Int, ent M 0 y * x = A ∧ ent M 1 y * (q - x) = B ∧ (A + B) * W = C ∧ V * q = D ∧ W * mval M x q y = C ∧ -5000000 ≤ A ∧ A ≤ 5000000 ∧ -5000000 ≤ B ∧ B ≤ 5000000 ∧ -40000000000 ≤ C ∧ C ≤ 40000000000 ∧ -20000000000 ≤ D ∧ D ≤ 20000000000) := fun y hy => col_parts p hx0 hxq hq5 l5 w1' wb' y
    have e6 : k0 % 5000 = q - 1 := by omega
    have HX := Lib.hid hx
    obtain ⟨hnn, b, o, rfl, hbb, hsq⟩ := rdr_sqP HRR.out p
    subst hnn
    obtain ⟨b0, o0, c0, hb0, hr0, _, _, hc0⟩ := hsq 0 (by omega)
    obtain ⟨b1, o1, c1, hb1, hr1, _, _, hc1⟩ := hsq 1 (by omega)
    rw [Nat.add_zero] at hr0
    have HR0 := Lib.hid (show _ ∧ _ from ⟨hr0, hr1⟩)
    have HC0 := Lib.hid hc0
    have HC1 := Lib.hid hc1
    have HEB : Hid (∀ y, -1000 ≤ ent M 0 y ∧ ent M 0 y ≤ 1000 ∧ -1000 ≤ ent M 1 y ∧ ent M 1 y ≤ 1000) := fun y => ⟨(p.ent 0 y).1, (p.ent 0 y).2, (p.ent 1 y).1, (p.ent 1 y).2⟩
    clear QS hb3 hb03 hbx hs p hb02 hx hq hsq hr0 hr1 hc0 hc1
    go_wp2_with fail
    generalize (w3.alloc (.cells #[.int .i64 P, .int .i64 Q] 24)).alloc (.cells #[.int .i64 V, .int .i64 W] 24) = w4 at *
    refine (QG.out w4 hb04).mono ?_
    rintro e w5 ⟨rfl, hb5⟩
    have hb05 := ext_trans hb04 hb5
    have u3' := (hb5.cell (p := ⟨w3.heap.size + 1, 0, none⟩) hsz).trans u3
    have u4' := (hb5.cell (p := ⟨w3.heap.size + 1, 1, none⟩) hsz).trans u4
    clear u1 u2 u3 u4 hb5 QG hb04 hsz HT d1 d2 d3 d4
    generalize w3.heap.size = g at *
    go_wp2_with fail
    refine (within_any k0 5000 w5 hk0 hk1 (by omega) (by omega)).mono ?_
    rintro e w5' ⟨rfl, rfl⟩
    rw [e6]
    have e7 : (1 : Int) + (q - 1) = q := by omega
    clear e6 hk0 hk1
    go_wp2_with fail
    refine (within_any i0 (q + 1) w5 hi0 hi1 (by omega) (by omega)).mono ?_
    rintro e w5' ⟨rfl, rfl⟩
    rw [HX.out]
    have s0 := (hb05.cell (p := ⟨b, o, none⟩) (by exact hbb)).trans HR0.out.1
    have s1 := (hb05.cell (p := ⟨b, o + 1, none⟩) (by exact hbb)).trans HR0.out.2
    have HB0 : Hid (∀ y, y < k → w5.cell? ⟨b0, o0 + y, none⟩ = some (.int .i64 (ent M 0 y))) := fun y hy => (hb05.cell (p := ⟨b0, o0 + y, none⟩) (by exact hb0)).trans (HC0.out y hy)
    have HB1 : Hid (∀ y, y < k → w5.cell? ⟨b1, o1 + y, none⟩ = some (.int .i64 (ent M 1 y))) := fun y hy => (hb05.cell (p := ⟨b1, o1 + y, none⟩) (by exact hb1)).trans (HC1.out y hy)
    clear e7 hi0 hi1 HX HR0 HC0 HC1
    go_wp2_with fail
    go_loopw [72] (fun yv wr => ∃ y d : Nat, y ≤ k ∧ yv = .int .i64 y ∧ (∀ j, j < y → V * q < W * mval M x q j) ∧ Hid (wr = w5.drewN d)) (fun yv _ => k - (intOf yv).toNat)
    case atStart => exact ⟨0, 0, Nat.zero_le _, rfl, (fun j hj => by omega), (show Hid _ from by show _ = _; rfl)⟩
    case round =>
      obtain ⟨y, d, hy, rfl, hno, HWR⟩ := hrel
      have HNO := Lib.hid hno
      clear hno
      by_cases hyk : y < k
      · obtain ⟨A, B, C, D, e1, e2, e3, e4, e5, g1, g2, g3, g4, g5, g6, g7, g8⟩ := HP.out y hyk
        have t0 : wr.cell? ⟨b, o, none⟩ = some (.slice (some ⟨b0, o0, none⟩) k c0) := by rw [HWR.out]; exact s0
        have t1 : wr.cell? ⟨b, o + 1, none⟩ = some (.slice (some ⟨b1, o1, none⟩) k c1) := by rw [HWR.out]; exact s1
        have t2 : wr.cell? ⟨b0, o0 + y, none⟩ = some (.int .i64 (ent M 0 y)) := by rw [HWR.out]; exact HB0.out y hyk
        have t3 : wr.cell? ⟨b1, o1 + y, none⟩ = some (.int .i64 (ent M 1 y)) := by rw [HWR.out]; exact HB1.out y hyk
        have t4 : wr.cell? ⟨g + 1, 0, none⟩ = some (.int .i64 V) := by rw [HWR.out]; exact u3'
        have t5 : wr.cell? ⟨g + 1, 1, none⟩ = some (.int .i64 W) := by rw [HWR.out]; exact u4'
        obtain ⟨m1, m2, m3, m4⟩ := HEB.out y
        have HNX : Hid (¬ C ≤ D → ∀ j, j < y + 1 → V * q < W * mval M x q j) := fun h j hj => by
          by_cases ej : j = y
          · subst ej; rw [e5, e4]; omega
          · exact HNO.out j (by omega)
        clear e5
        generalize ent M 0 y = z0 at *
        generalize ent M 1 y = z1 at *
        by_cases hCD : C ≤ D
        · have hbe : Below w.heap.size w wr := by rw [HWR.out]; exact below_drewN hb05 d
          have dd : decide (C ≤ D) = true := decide_eq_true hCD
          go_wp2_with fail
          go_quiet (fail)
          go_wp2
          go_ret
          exact ⟨rfl, below_drewN hbe _⟩
        · have HX := Lib.hid (HNX.out hCD)
          have dd : decide (C ≤ D) = false := decide_eq_false hCD
          clear HNX hCD
          go_wp2_with fail
          go_quiet (fail)
          go_wp2
          go_roundw
          case rel => exact ⟨y + 1, d + nq, by omega, by go_num, HX.out, (show Hid _ from by show _ = _; rw [HWR.out, World.drewN_drewN])⟩
          case measure => simp [intOf]; omega
      · obtain rfl : y = k := by omega
        obtain ⟨z, hz, hz2⟩ := HQ.out
        exact absurd hz2 (Int.not_le.2 (HNO.out z hz))
  · have QS := Lib.hid (mE a n c M w2 (HT.out.below hb02) h0)
    have hne : (mxchk M != 0) = true := by simpa using h0
    clear h0 mE mS
    generalize mxchk M = r at *
    go_wp2_with fail
    refine QS.out.mono ?_
    rintro e w3 ⟨rfl, hb3⟩
    have hb03 := ext_trans hb02 hb3
    obtain ⟨u1, u2, u3, u4, hsz, hbx⟩ := boxes2 w3 24 0 0 0 0
    have hb04 := ext_trans hb03 hbx
    clear QS hb3 hb03 hbx hb02 HT HRR
    go_wp2
    go_ret
    exact ⟨by first | rfl | simp, hb04⟩
end Go.Proofs.Ytilgoinbajmamaa

/-
  The closure that mixed.Solve hands on: it keeps the better one of what it held and what it is handed; nothing else that was there is written.
-/
import Derived.Test.YtimjepakdldacaaCMxBox
import Derived.BigRegion
import Derived.RegionTactic
import Derived.Deep.RegionHeld3
import Derived.Deep.DeepMust
import Derived.Deep.DeepCutAuto
namespace Go.Proofs.Ytimjepakdldacaa
open Go.RowKit Fm
set_option linter.unusedVariables false

set_option maxHeartbeats 8000000 in
set_option maxRecDepth 100000 in
theorem mstep_any {w0 : World} {k : Nat} {M : List (List Int)} {g1 gb gv b o c b0 o0 c0 b1 o1 c1 : Nat} {P Q V U X Y : Int} (p : Pay 2 k M) (W : World) (hb : BxS w0 k M g1 gb gv b o c b0 o0 c0 b1 o1 c1 P Q V U W) (hg : MGood M k P Q V U)
    (x0 : 0 ≤ X) (x1 : X ≤ Y) (x2 : 1 ≤ Y) (x3 : Y ≤ 4000) (x4 : Int.gcd X Y = 1) :
    Calls Try.prog 45 #[.agg #[.int .i64 X, .int .i64 Y], .pointer (some ⟨g1, 0, none⟩), .pointer (some ⟨gv, 0, none⟩), .pointer (some ⟨gb, 0, none⟩)] W (StepOut w0 k M g1 gb gv b o c b0 o0 c0 b1 o1 c1 P Q X Y) := by
  obtain ⟨wA, hA⟩ : ∃ wA, wA = W.alloc (.cells #[.int .i64 X, .int .i64 Y] 45) := ⟨_, rfl⟩
  have lA : Below W.heap.size W wA := by rw [hA]; exact (Below.refl _ _).alloc (Nat.le_refl _) _
  have bA := hb.next lA
  obtain ⟨z0, z1, zf⟩ := boxQ W 45 X Y
  rw [← hA] at z0 z1
  have sX : W.heap.size < wA.heap.size := by rw [hA]; simp
  obtain ⟨a1, a2, a3⟩ := bA.l0
  obtain ⟨a4, a5, a6, a7⟩ := bA.l1
  have m1 := bA.m1
  have r0 := bA.r0
  have r1 := bA.r1
  have s1 : g1 < wA.heap.size := by omega
  have s2 : b < wA.heap.size := by have := bA.bel.size; omega
  have BA := Lib.hid bA
  have HG := Lib.hid hg
  have HP := Lib.hid p
  have QL : Hid (∀ w1 : World, Below wA.heap.size wA w1 → Calls Try.prog 43 #[.slice (some ⟨b0, o0, none⟩) k c0, .slice (some ⟨b1, o1, none⟩) k c1, .agg #[.int .i64 X, .int .i64 Y]] w1 (LowOut (lvOf M k X Y) Y w1)) := fun w1 h1 => by
    have b2 := bA.next h1
    exact mleast_any p x0 x1 x2 x3 w1 (by have := b2.l0; have := b2.l1; omega) (by have := b2.l0; have := b2.l1; omega) b2.y0 b2.y1
  have HX := Lib.hid (show 0 ≤ X ∧ X ≤ Y ∧ 1 ≤ Y ∧ Y ≤ 4000 ∧ Int.gcd X Y = 1 from ⟨x0, x1, x2, x3, x4⟩)
  have HLT := Lib.hid (show gb < gv ∧ gv < W.heap.size from ⟨hb.l1.2.2.1, hb.l1.2.2.2⟩)
  clear hb lA bA zf a1 a2 a3 a4 a5 a6 a7 hg p
  go_enter Try.func45, Try.ntmps45
  go_wp2_with fail
  rw [← hA]
  clear hA
  go_upto_region 1 with fail
  go_cut [5] (fun s5 wx => ∃ (g5 : Nat) (R S h : Int), s5 = .pointer (some ⟨g5, 0, none⟩) ∧ Hid (1 ≤ h ∧ lvOf M k X Y = R * h ∧ Y = S * h ∧ Int.gcd R S = 1) ∧ wx.cell? ⟨g5, 0, none⟩ = some (.int .i64 R) ∧ wx.cell? ⟨g5, 1, none⟩ = some (.int .i64 S) ∧ wA.heap.size ≤ g5 ∧ Below wA.heap.size wA wx)
  case' first =>
    have KE : Hid (∀ w', Below wA.heap.size wA w' → w'.cell? ⟨g1, 0, none⟩ = some (.slice (some ⟨b, o, none⟩) 2 c) ∧ w'.cell? ⟨b, o, none⟩ = some (.slice (some ⟨b0, o0, none⟩) k c0) ∧ w'.cell? ⟨b, o + 1, none⟩ = some (.slice (some ⟨b1, o1, none⟩) k c1) ∧ w'.cell? ⟨W.heap.size, 0, none⟩ = some (.int .i64 X) ∧ w'.cell? ⟨W.heap.size, 1, none⟩ = some (.int .i64 Y)) := fun w' hw =>
      ⟨(hw.cell (p := ⟨g1, 0, none⟩) (by exact s1)).trans m1, (hw.cell (p := ⟨b, o, none⟩) (by exact s2)).trans r0, (hw.cell (p := ⟨b, o + 1, none⟩) (by exact s2)).trans r1, (hw.cell (p := ⟨W.heap.size, 0, none⟩) (by exact sX)).trans z0, (hw.cell (p := ⟨W.heap.size, 1, none⟩) (by exact sX)).trans z1⟩
    go_region_held3 (fun w' => w'.cell? ⟨g1, 0, none⟩ = some (.slice (some ⟨b, o, none⟩) 2 c) ∧ w'.cell? ⟨b, o, none⟩ = some (.slice (some ⟨b0, o0, none⟩) k c0) ∧ w'.cell? ⟨b, o + 1, none⟩ = some (.slice (some ⟨b1, o1, none⟩) k c1) ∧ w'.cell? ⟨W.heap.size, 0, none⟩ = some (.int .i64 X) ∧ w'.cell? ⟨W.heap.size, 1, none⟩ = some (.int .i64 Y))
      (first | assumption | exact KE.out _ (by assumption) | exact KE.out _ (Below.refl _ wA).drew | exact KE.out _ ((Below.refl _ wA).alloc (Nat.le_refl _) _).drew | exact KE.out _ (hbz.alloc hbz.size _) | exact KE.out _ ((hbz.setCell (p := ⟨wA.heap.size, 0, none⟩) (Nat.le_refl _) _).setCell (p := ⟨wA.heap.size, 1, none⟩) (Nat.le_refl _) _))
      (first
      | (go_at_call 43
         with_reducible refine (QL.out _ (by first | exact (Below.refl _ wA).drew | exact ((Below.refl _ wA).alloc (Nat.le_refl _) _).drew)).mono ?_
         rintro e w9 ⟨R, S, h, k1, k2, k3, k4, rfl, hb9⟩
         have HRS := Lib.hid (show 1 ≤ h ∧ lvOf M k X Y = R * h ∧ Y = S * h ∧ Int.gcd R S = 1 from ⟨k1, k2, k3, k4⟩)
         clear k1 k2 k3 k4
         have hbz : Below wA.heap.size wA w9 := by first | exact (Below.refl _ wA).drew.trans hb9 | exact ((Below.refl _ wA).alloc (Nat.le_refl _) _).drew.trans (hb9.mono (Below.alloc (Below.refl _ wA) (Nat.le_refl _) _).size)
         try
           have u0 := boxQ wA 45 0 0
           have u1 : w9.cell? ⟨wA.heap.size, 0, none⟩ = some (.int .i64 0) := (hb9.cell (p := ⟨wA.heap.size, 0, none⟩) (by simp)).trans u0.1
           have u2 : w9.cell? ⟨wA.heap.size, 1, none⟩ = some (.int .i64 0) := (hb9.cell (p := ⟨wA.heap.size, 1, none⟩) (by simp)).trans u0.2.1
           have u3 : w9.frozen? ⟨wA.heap.size, 0, none⟩ = false := (hb9.frozen (p := ⟨wA.heap.size, 0, none⟩) (by simp)).trans (u0.2.2 0)
           have u4 : w9.frozen? ⟨wA.heap.size, 1, none⟩ = false := (hb9.frozen (p := ⟨wA.heap.size, 1, none⟩) (by simp)).trans (u0.2.2 1)
           clear u0))
    all_goals
      go_wp2_with fail
      go_meet
      first
        | (have q := stored2 (P := .int .i64 R) (Q := .int .i64 S) u1 u2 u3 u4
           exact ⟨_, R, S, h, rfl, HRS, q.1, q.2.1, Nat.le_refl _, (hbz.setCell (p := ⟨wA.heap.size, 0, none⟩) (Nat.le_refl _) _).setCell (p := ⟨wA.heap.size, 1, none⟩) (Nat.le_refl _) _⟩)
        | (have u0 := boxQ w9 45 R S
           exact ⟨_, R, S, h, rfl, HRS, u0.1, u0.2.1, hbz.size, hbz.alloc hbz.size _⟩)
  case rest =>
    obtain ⟨g5, R, S, h, rfl, HRS, c5, c6, h5a, hb5⟩ := hcut
    obtain ⟨k1, k2, k3, k4⟩ := HRS.out
    obtain ⟨x0, x1, x2, x3, x4⟩ := HX.out
    have g2 : MGood M k X Y R S := ⟨x0, x1, x2, x3, x4, ⟨h, k1, k2, k3⟩, k4⟩
    have G2 := Lib.hid g2
    obtain ⟨e1, e2⟩ := good_bd HP.out HG.out
    obtain ⟨e3, e4⟩ := good_bd HP.out g2
    obtain ⟨e5, e6⟩ := HG.out.w1
    obtain ⟨e7, e8⟩ := g2.w1
    have e9 := HG.out.qb
    have e10 := HG.out.q1
    have B1 := Lib.hid (BA.out.next hb5)
    have v0 := B1.out.v0
    have v1 := B1.out.v1
    have HC := Lib.hid (fun w1 => mcmp_any R S V U e3 e4 (by omega) (by omega) e1 e2 (by omega) (by omega) w1)
    have d0 := (hb5.cell (p := ⟨W.heap.size, 0, none⟩) (by show W.heap.size < _; omega)).trans z0
    have d1 := (hb5.cell (p := ⟨W.heap.size, 1, none⟩) (by show W.heap.size < _; omega)).trans z1
    have hsx := Nat.lt_of_lt_of_le sX hb5.size
    have h5x := lt_of_cell c5
    clear z0 z1 m1 r0 r1 s1 s2 hb5 QL BA k1 k2 k3 k4 g2 HX HRS
    rcases Int.lt_trichotomy (R * U) (V * S) with q | q | q
    · have HQ := Lib.hid q
      simp only [cmpI_lt q] at HC
      clear q
      go_wp2_with fail
      refine (HC.out _).mono ?_
      rintro e w2 ⟨rfl, hb⟩
      have B2 := Lib.hid (B1.out.next hb)
      clear HC B1 v0 v1 d0 d1 c5 c6 hb hsx h5x
      go_wp2_with fail
      go_end0
      exact ⟨rfl, P, Q, V, U, HG.out, B2.out, Beaten.self P Q, good_more G2.out HG.out HQ.out⟩
    · have HQ := Lib.hid q
      simp only [cmpI_eq q] at HC
      clear q
      have HC2 : Hid (∀ w1, Calls Try.prog 46 #[.agg #[.int .i64 X, .int .i64 Y], .agg #[.int .i64 P, .int .i64 Q]] w1 fun e w' => e = .returned (.int .i64 (cmpI (X * Q) (P * Y))) ∧ Below w1.heap.size w1 w') := fun w1 => by
        have := HG.out.p0
        have := HG.out.pq
        exact mcmp_any X Y P Q (by omega) (by omega) (by omega) (by omega) (by omega) (by omega) (by omega) (by omega) w1
      go_wp2_with fail
      refine (HC.out _).mono ?_
      rintro e w2 ⟨rfl, hb⟩
      have B2 := Lib.hid (B1.out.next hb)
      have p0 := B2.out.p0
      have p1 := B2.out.p1
      have f0 := (hb.cell (p := ⟨W.heap.size, 0, none⟩) hsx).trans d0
      have f1 := (hb.cell (p := ⟨W.heap.size, 1, none⟩) hsx).trans d1
      have f2 := (hb.cell (p := ⟨g5, 0, none⟩) h5x).trans c5
      have f3 := (hb.cell (p := ⟨g5, 1, none⟩) h5x).trans c6
      have hsy : W.heap.size < w2.heap.size := Nat.lt_of_lt_of_le hsx hb.size
      have h5y : g5 < w2.heap.size := Nat.lt_of_lt_of_le h5x hb.size
      clear HC B1 v0 v1 d0 d1 c5 c6 hb hsx h5x
      by_cases q2 : X * Q < P * Y
      · have HC3 : Hid (Calls Try.prog 46 #[.agg #[.int .i64 X, .int .i64 Y], .agg #[.int .i64 P, .int .i64 Q]] w2 fun e w' => e = .returned (.int .i64 (-1)) ∧ Below w2.heap.size w2 w') := by rw [← cmpI_lt q2]; exact HC2.out w2
        have HQ2 := Lib.hid q2
        clear q2 HC2
        go_wp2_with fail
        refine HC3.out.mono ?_
        rintro e w3 ⟨rfl, hb⟩
        have B3 := Lib.hid (B2.out.next hb)
        have y0 := (hb.cell (p := ⟨W.heap.size, 0, none⟩) hsy).trans f0
        have y1 := (hb.cell (p := ⟨W.heap.size, 1, none⟩) hsy).trans f1
        have y2 := (hb.cell (p := ⟨g5, 0, none⟩) h5y).trans f2
        have y3 := (hb.cell (p := ⟨g5, 1, none⟩) h5y).trans f3
        have u0 := B3.out.p0
        have u1 := B3.out.p1
        have u2 := B3.out.v0
        have u3 := B3.out.v1
        have fb0 := B3.out.fb 0
        have fb1 := B3.out.fb 1
        have fv0 := B3.out.fv 0
        have fv1 := B3.out.fv 1
        obtain ⟨ha1, ha2⟩ := HLT.out
        have ne1 : gb ≠ gv := by omega
        have ne2 : gv ≠ gb := by omega
        have ne3 : gb ≠ g5 := by omega
        have ne4 : g5 ≠ gb := by omega
        have ne5 : gv ≠ g5 := by omega
        have ne6 : g5 ≠ gv := by omega
        have ne7 : W.heap.size ≠ gb := by omega
        have ne8 : gb ≠ W.heap.size := by omega
        have ne9 : W.heap.size ≠ gv := by omega
        have ne10 : gv ≠ W.heap.size := by omega
        clear ha1 ha2
        have HN : Hid (MGood M k X Y R S ∧ Beaten M k X Y P Q ∧ Beaten M k X Y X Y) := ⟨G2.out, good_same HG.out G2.out HQ.out.symm (by have := HQ2.out; omega), Beaten.self X Y⟩
        clear HC3 B2 p0 p1 f0 f1 f2 f3 hb hsy h5y
        go_wp2_with fail
        go_region
        all_goals
          go_wp2
          go_end0
          obtain ⟨n1, n2, n3⟩ := HN.out
          exact ⟨rfl, X, Y, R, S, n1, by first | exact ((B3.out.next (Below.refl _ _).drew).setB X Y).setV R S | exact ((B3.out.next (Below.refl _ _).drew).setV R S).setB X Y, n2, n3⟩
      · have hc : cmpI (X * Q) (P * Y) = 0 ∨ cmpI (X * Q) (P * Y) = 1 := by
          rcases Int.lt_trichotomy (X * Q) (P * Y) with e | e | e
          · exact absurd e q2
          · exact .inl (cmpI_eq e)
          · exact .inr (cmpI_gt e)
        have HQ2 := Lib.hid q2
        clear q2
        have HC3 := Lib.hid (HC2.out w2)
        rcases hc with hc | hc
        all_goals
          rw [hc] at HC3
          clear HC2 hc
          go_wp2_with fail
          refine HC3.out.mono ?_
          rintro e w3 ⟨rfl, hb⟩
          have B3 := Lib.hid (B2.out.next hb)
          clear HC3 B2 p0 p1 f0 f1 f2 f3 hb hsy h5y
          go_wp2_with fail
          go_end0
          exact ⟨rfl, P, Q, V, U, HG.out, B3.out, Beaten.self P Q, good_same G2.out HG.out HQ.out (by have := HQ2.out; omega)⟩
    · have HQ := Lib.hid q
      simp only [cmpI_gt q] at HC
      clear q
      go_wp2_with fail
      refine (HC.out _).mono ?_
      rintro e w2 ⟨rfl, hb⟩
      have B3 := Lib.hid (B1.out.next hb)
      have y0 := (hb.cell (p := ⟨W.heap.size, 0, none⟩) hsx).trans d0
      have y1 := (hb.cell (p := ⟨W.heap.size, 1, none⟩) hsx).trans d1
      have y2 := (hb.cell (p := ⟨g5, 0, none⟩) h5x).trans c5
      have y3 := (hb.cell (p := ⟨g5, 1, none⟩) h5x).trans c6
      have u0 := B3.out.p0
      have u1 := B3.out.p1
      have u2 := B3.out.v0
      have u3 := B3.out.v1
      have fb0 := B3.out.fb 0
      have fb1 := B3.out.fb 1
      have fv0 := B3.out.fv 0
      have fv1 := B3.out.fv 1
      obtain ⟨ha1, ha2⟩ := HLT.out
      have ne1 : gb ≠ gv := by omega
      have ne2 : gv ≠ gb := by omega
      have ne3 : gb ≠ g5 := by omega
      have ne4 : g5 ≠ gb := by omega
      have ne5 : gv ≠ g5 := by omega
      have ne6 : g5 ≠ gv := by omega
      have ne7 : W.heap.size ≠ gb := by omega
      have ne8 : gb ≠ W.heap.size := by omega
      have ne9 : W.heap.size ≠ gv := by omega
      have ne10 : gv ≠ W.heap.size := by omega
      clear ha1 ha2
      have HN : Hid (MGood M k X Y R S ∧ Beaten M k X Y P Q ∧ Beaten M k X Y X Y) := ⟨G2.out, good_more HG.out G2.out HQ.out, Beaten.self X Y⟩
      clear HC B1 v0 v1 d0 d1 c5 c6 hb hsx h5x
      go_wp2_with fail
      go_region
      all_goals
        go_wp2
        go_end0
        obtain ⟨n1, n2, n3⟩ := HN.out
        exact ⟨rfl, X, Y, R, S, n1, by first | exact ((B3.out.next (Below.refl _ _).drew).setB X Y).setV R S | exact ((B3.out.next (Below.refl _ _).drew).setV R S).setB X Y, n2, n3⟩
theorem mStepP : MStepP := fun w0 k M g1 gb gv b o c b0 o0 c0 b1 o1 c1 P Q V U X Y W p hb hg x0 x1 x2 x3 x4 => mstep_any p W hb hg x0 x1 x2 x3 x4
end Go.Proofs.Ytimjepakdldacaa

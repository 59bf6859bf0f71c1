/-
  mixed.corners with the closure of mixed.Solve: every corner is tried; nothing else that was there is written.
-/
import Derived.Test.YtimjepakdldacaaCMxBox
import Derived.BigQuiet
import Derived.Deep.QuietTactic
import Derived.Deep.DeepMust
namespace Go.Proofs.Ytimjepakdldacaa
open Go.RowKit Fm
set_option linter.unusedVariables false

/-- What Solve holds, and what has been tried. -/
structure Tried (w0 : World) (k : Nat) (M : List (List Int)) (g1 gb gv b o c b0 o0 c0 b1 o1 c1 : Nat) (n m : Nat) (P Q V U : Int) (W : World) : Prop where
  good : MGood M k P Q V U
  box : BxS w0 k M g1 gb gv b o c b0 o0 c0 b1 o1 c1 P Q V U W
  t0 : Beaten M k P Q 0 1
  t1 : Beaten M k P Q 1 1
  tx : ∀ x y, x < n → y < x → CrossB M k P Q x y
  ty : ∀ y, y < m → CrossB M k P Q n y
section
variable {w0 : World} {k : Nat} {M : List (List Int)} {g1 gb gv b o c b0 o0 c0 b1 o1 c1 n m : Nat} {P Q V U : Int} {W W' : World}
theorem Tried.next (hb : Below W.heap.size W W') (h : Tried w0 k M g1 gb gv b o c b0 o0 c0 b1 o1 c1 n m P Q V U W) : Tried w0 k M g1 gb gv b o c b0 o0 c0 b1 o1 c1 n m P Q V U W' :=
  ⟨h.good, h.box.next hb, h.t0, h.t1, h.tx, h.ty⟩
theorem Tried.row (h : Tried w0 k M g1 gb gv b o c b0 o0 c0 b1 o1 c1 n n P Q V U W) : Tried w0 k M g1 gb gv b o c b0 o0 c0 b1 o1 c1 (n + 1) 0 P Q V U W :=
  ⟨h.good, h.box, h.t0, h.t1, fun x y hx hy => by
    by_cases e : x = n
    · subst e; exact h.ty y hy
    · exact h.tx x y (by omega) hy, fun y hy => by omega⟩
theorem Tried.skip (h : Tried w0 k M g1 gb gv b o c b0 o0 c0 b1 o1 c1 n m P Q V U W) (hx : CrossB M k P Q n m) : Tried w0 k M g1 gb gv b o c b0 o0 c0 b1 o1 c1 n (m + 1) P Q V U W :=
  ⟨h.good, h.box, h.t0, h.t1, h.tx, fun y hy => by
    by_cases e : y = m
    · subst e; exact hx
    · exact h.ty y (by omega)⟩
theorem Tried.step (h : Tried w0 k M g1 gb gv b o c b0 o0 c0 b1 o1 c1 n m P Q V U W) {P' Q' V' U' : Int} (g : MGood M k P' Q' V' U') (hb : BxS w0 k M g1 gb gv b o c b0 o0 c0 b1 o1 c1 P' Q' V' U' W') (h2 : Beaten M k P' Q' P Q) : Tried w0 k M g1 gb gv b o c b0 o0 c0 b1 o1 c1 n m P' Q' V' U' W' :=
  ⟨g, hb, h.t0.trans (by omega) h.good.q1 g.q1 h2, h.t1.trans (by omega) h.good.q1 g.q1 h2, fun x y hx hy => (h.tx x y hx hy).next h.good.q1 g.q1 h2, fun y hy => (h.ty y hy).next h.good.q1 g.q1 h2⟩
end
/-- What corners leaves. -/
def CornOut (w0 : World) (k : Nat) (M : List (List Int)) (g1 gb gv b o c b0 o0 c0 b1 o1 c1 : Nat) (e : Ending) (W' : World) : Prop :=
  e = .returned (.tuple #[]) ∧ ∃ P Q V U, Tried w0 k M g1 gb gv b o c b0 o0 c0 b1 o1 c1 k 0 P Q V U W'
theorem one_low1 {P g : Int} (h1 : 1 ≤ g) (h2 : 1 = P * g) : P = 1 := by
  rcases Int.lt_trichotomy P 0 with e | e | e
  · have := Int.mul_neg_of_neg_of_pos e (show 0 < g by omega); omega
  · subst e; simp at h2
  · have : P * 1 ≤ P * g := Int.mul_le_mul_of_nonneg_left h1 (by omega)
    omega
theorem one_low {P Q g : Int} (h1 : 1 ≤ g) (h2 : 1 = P * g) (h3 : 1 = Q * g) : P = 1 ∧ Q = 1 := ⟨one_low1 h1 h2, one_low1 h1 h3⟩
theorem low_rng {X Y g p q : Int} (hg : 1 ≤ g) (e1 : p = X * g) (e2 : q = Y * g) (h1 : 0 < p) (h2 : p < q) (h3 : q ≤ 4000) : 0 ≤ X ∧ X ≤ Y ∧ 1 ≤ Y ∧ Y ≤ 4000 := by
  have hX : 0 ≤ X := by
    rcases Int.lt_trichotomy X 0 with e | e | e
    · have := Int.mul_neg_of_neg_of_pos e (show 0 < g by omega); omega
    · omega
    · omega
  have hXY : X ≤ Y := Int.le_of_mul_le_mul_right (a := g) (by omega) (by omega)
  have hY : 1 ≤ Y := by
    rcases Int.lt_trichotomy Y 0 with e | e | e
    · omega
    · subst e; simp at e2; omega
    · omega
  have : Y * 1 ≤ Y * g := Int.mul_le_mul_of_nonneg_left hg (by omega)
  exact ⟨hX, hXY, hY, by omega⟩

set_option maxHeartbeats 8000000 in
set_option maxRecDepth 100000 in
theorem mcorn_any {w0 : World} {k : Nat} {M : List (List Int)} {g1 gb gv b o c b0 o0 c0 b1 o1 c1 : Nat} {P Q V U : Int} (ms : MStepP) (p : Pay 2 k M) (W : World) (hb : BxS w0 k M g1 gb gv b o c b0 o0 c0 b1 o1 c1 P Q V U W) (hg : MGood M k P Q V U) (h0 : Beaten M k P Q 0 1) :
    Calls Try.prog 44 #[.slice (some ⟨b0, o0, none⟩) k c0, .slice (some ⟨b1, o1, none⟩) k c1, .func (.func 45) #[] #[.pointer (some ⟨g1, 0, none⟩), .pointer (some ⟨gv, 0, none⟩), .pointer (some ⟨gb, 0, none⟩)]] W (CornOut w0 k M g1 gb gv b o c b0 o0 c0 b1 o1 c1) := by
  have k1 := p.k1
  have k6 := p.k6
  have HP := Lib.hid p
  have HEB : Hid (∀ e y, -1000 ≤ ent M e y ∧ ent M e y ≤ 1000) := fun e y => p.ent e y
  have HB := Lib.hid hb
  have HG := Lib.hid hg
  have H0 := Lib.hid h0
  have HLOW := Lib.hid (mlow_any 1 1 (by omega) (by omega) (by omega) (by omega) W)
  have HST : Hid (∀ (P Q V U X Y : Int) (n m : Nat) (W : World), Tried w0 k M g1 gb gv b o c b0 o0 c0 b1 o1 c1 n m P Q V U W → 0 ≤ X → X ≤ Y → 1 ≤ Y → Y ≤ 4000 → Int.gcd X Y = 1 →
      Calls Try.prog 45 #[.agg #[.int .i64 X, .int .i64 Y], .pointer (some ⟨g1, 0, none⟩), .pointer (some ⟨gv, 0, none⟩), .pointer (some ⟨gb, 0, none⟩)] W fun e W' => e = .returned (.tuple #[]) ∧ ∃ P' Q' V' U', Tried w0 k M g1 gb gv b o c b0 o0 c0 b1 o1 c1 n m P' Q' V' U' W' ∧ Beaten M k P' Q' X Y) := fun P Q V U X Y n m W T x0 x1 x2 x3 x4 => by
    refine (ms _ _ _ _ _ _ _ _ _ _ _ _ _ _ _ _ _ _ _ _ _ W HP.out T.box T.good x0 x1 x2 x3 x4).mono ?_
    rintro e W' ⟨rfl, P', Q', V', U', g, bx, h1, h2⟩
    exact ⟨rfl, P', Q', V', U', T.step g bx h1, h2⟩
  have HST1 : Hid (∀ W', Below W.heap.size W W' → Calls Try.prog 45 #[.agg #[.int .i64 1, .int .i64 1], .pointer (some ⟨g1, 0, none⟩), .pointer (some ⟨gv, 0, none⟩), .pointer (some ⟨gb, 0, none⟩)] W' fun e W' => e = .returned (.tuple #[]) ∧ ∃ P' Q' V' U', Tried w0 k M g1 gb gv b o c b0 o0 c0 b1 o1 c1 0 0 P' Q' V' U' W') := fun W' hW => by
    refine (ms _ _ _ _ _ _ _ _ _ _ _ _ _ _ _ _ _ _ _ _ _ W' HP.out (HB.out.next hW) HG.out (by omega) (by omega) (by omega) (by omega) (by decide)).mono ?_
    rintro e W' ⟨rfl, P', Q', V', U', g, bx, h1, h2⟩
    exact ⟨rfl, P', Q', V', U', g, bx, H0.out.trans (by omega) HG.out.q1 g.q1 h1, h2, fun x y hx => by omega, fun y hy => by omega⟩
  clear p hb hg h0 ms
  go_enter Try.func44, Try.ntmps44
  go_wp2_with fail
  refine HLOW.out.mono ?_
  rintro e w1 ⟨P1, Q1, g, q1, q2, q3, _, rfl, hb1⟩
  obtain ⟨rfl, rfl⟩ := one_low q1 q2 q3
  clear HLOW q1 q2 q3
  go_wp2_with fail
  refine (HST1.out w1 hb1).mono ?_
  rintro e w2 ⟨rfl, P2, Q2, V2, U2, T2⟩
  have HT2 := Lib.hid T2
  clear HST1 T2 HB HG H0 hb1
  go_wp2_with fail
  go_loopw [15] (fun cv wr => ∃ (n : Nat) (P Q V U : Int), n ≤ k ∧ cv = .int .i64 n ∧ Hid (Tried w0 k M g1 gb gv b o c b0 o0 c0 b1 o1 c1 n 0 P Q V U wr)) (fun cv _ => k - (intOf cv).toNat)
  case atStart => exact ⟨0, P2, Q2, V2, U2, Nat.zero_le _, rfl, HT2⟩
  case round =>
    obtain ⟨n, P, Q, V, U, hn, rfl, HT⟩ := hrel
    clear HT2
    by_cases hnk : n < k
    · have d1 : decide ((n : Int) < (k : Int)) = true := decide_eq_true (by omega)
      obtain ⟨wo, rfl⟩ : ∃ wo, wo = wr := ⟨_, rfl⟩
      go_wp2_with fail
      go_loopw [19] (fun dv wr => ∃ (m : Nat) (P Q V U : Int), m ≤ n ∧ dv = .int .i64 m ∧ Hid (Tried w0 k M g1 gb gv b o c b0 o0 c0 b1 o1 c1 n m P Q V U wr)) (fun dv _ => n - (intOf dv).toNat)
      case atStart => exact ⟨0, P, Q, V, U, Nat.zero_le _, rfl, HT⟩
      case round =>
        clear HT
        obtain ⟨m, P, Q, V, U, hm, rfl, HT⟩ := hrel
        by_cases hmn : m < n
        · have d2 : decide ((m : Int) < (n : Int)) = true := decide_eq_true (by omega)
          have hmk : m < k := by omega
          have t2 := HT.out.box.y0 n hnk
          have t3 := HT.out.box.y0 m hmk
          have t4 := HT.out.box.y1 n hnk
          have t5 := HT.out.box.y1 m hmk
          obtain ⟨e0, e0'⟩ := HEB.out 0 n
          obtain ⟨e1, e1'⟩ := HEB.out 0 m
          obtain ⟨e2, e2'⟩ := HEB.out 1 n
          obtain ⟨e3, e3'⟩ := HEB.out 1 m
          obtain ⟨xa, hxa⟩ : ∃ x, ent M 0 n = x := ⟨_, rfl⟩
          obtain ⟨ya, hya⟩ : ∃ x, ent M 0 m = x := ⟨_, rfl⟩
          obtain ⟨xb, hxb⟩ : ∃ x, ent M 1 n = x := ⟨_, rfl⟩
          obtain ⟨yb, hyb⟩ : ∃ x, ent M 1 m = x := ⟨_, rfl⟩
          rw [hxa] at t2 e0 e0'
          rw [hya] at t3 e1 e1'
          rw [hxb] at t4 e2 e2'
          rw [hyb] at t5 e3 e3'
          obtain ⟨gp, hgp⟩ : ∃ x, yb - xb = x := ⟨_, rfl⟩
          obtain ⟨sm, hsm⟩ : ∃ x, gp + xa = x := ⟨_, rfl⟩
          obtain ⟨tn, htn⟩ : ∃ x, sm - ya = x := ⟨_, rfl⟩
          have l1 : -2000 ≤ gp := by omega
          have l2 : gp ≤ 2000 := by omega
          have l3 : -3000 ≤ sm := by omega
          have l4 : sm ≤ 3000 := by omega
          have l5 : -4000 ≤ tn := by omega
          have l6 : tn ≤ 4000 := by omega
          have HCR : Hid (∀ P Q gq tq : Int, (tn < 0 ∧ gq = -gp ∧ tq = -tn ∨ ¬ tn < 0 ∧ gq = gp ∧ tq = tn) → (0 < gq → gq < tq → Beaten M k P Q gq tq) → CrossB M k P Q n m) := fun P Q gq tq hs hbt g t hgt h1 h2 => by
            have hg2 : g = gq := by unfold slope at hgt; omega
            have ht2 : t = tq := by unfold slope at hgt; omega
            rw [hg2, ht2]
            exact hbt (by omega) (by omega)
          clear hxa hya hxb hyb
          go_wp2_with fail
          go_quiet (fail)
          have t2' : (wr.drewN nq).cell? ⟨b0, o0 + n, none⟩ = some (.int .i64 xa) := t2
          have t3' : (wr.drewN nq).cell? ⟨b0, o0 + m, none⟩ = some (.int .i64 ya) := t3
          have HT5 := Lib.hid (HT.out.next (below_drewN (Below.refl _ wr) nq))
          clear t2 t3 t4 t5 HT
          generalize wr.drewN nq = w5 at *
          go_wp2_with fail
          go_quiet (fail)
          have HT6 := Lib.hid (HT5.out.next (below_drewN (Below.refl _ w5) nq))
          clear t2' t3' HT5
          generalize w5.drewN nq = w6 at *
          clear hsm htn hgp
          by_cases hneg : tn < 0
          case' pos =>
            have d3 : decide (tn < 0) = true := decide_eq_true hneg
            obtain ⟨gq, hgq⟩ : ∃ x, -gp = x := ⟨_, rfl⟩
            obtain ⟨tq, htq⟩ : ∃ x, -tn = x := ⟨_, rfl⟩
            have hq1 : -2000 ≤ gq := by omega
            have hq2 : gq ≤ 2000 := by omega
            have hq3 : 0 ≤ tq := by omega
            have hq4 : tq ≤ 4000 := by omega
            have HC := Lib.hid (fun P Q => HCR.out P Q gq tq (.inl ⟨hneg, hgq.symm, htq.symm⟩))
            clear hneg HCR
          case' neg =>
            have d3 : decide (tn < 0) = false := decide_eq_false hneg
            have HC := Lib.hid (fun P Q => HCR.out P Q gp tn (.inr ⟨by omega, rfl, rfl⟩))
            have hq1 : -2000 ≤ gp := l1
            have hq2 : gp ≤ 2000 := l2
            have hq3 : 0 ≤ tn := by omega
            have hq4 : tn ≤ 4000 := l6
            clear hneg HCR l1 l2 l5 l6
            generalize gp = gq at *
            generalize tn = tq at *
          all_goals
            by_cases q1 : 0 < gq
            · have f1 : decide (0 < gq) = true := decide_eq_true q1
              by_cases q2 : gq < tq
              · have f2 : decide (gq < tq) = true := decide_eq_true q2
                have HL := Lib.hid (mlow_any gq tq (by omega) hq4 (by omega) (by omega) w6)
                go_wp2_with fail
                refine HL.out.mono ?_
                rintro e w7 ⟨X, Y, g, z1, z2, z3, z4, rfl, hb7⟩
                obtain ⟨x0, x1, x2, x3⟩ := low_rng z1 z2 z3 q1 q2 hq4
                have HZ := Lib.hid (show 1 ≤ g ∧ gq = X * g ∧ tq = Y * g from ⟨z1, z2, z3⟩)
                have HS := Lib.hid (HST.out _ _ _ _ X Y _ _ w7 (HT6.out.next hb7) x0 x1 x2 x3 z4)
                clear z1 z2 z3 z4 HT6 HL hb7 x0 x1 x2 x3
                go_wp2_with fail
                refine HS.out.mono ?_
                rintro e w8 ⟨rfl, P8, Q8, V8, U8, T8, hbt⟩
                have HT8 := Lib.hid (T8.skip (HC.out P8 Q8 (fun _ _ => by
                  obtain ⟨y1, y2, y3⟩ := HZ.out
                  rw [y2, y3]
                  exact hbt.scale k1 y1)))
                clear T8 hbt HS HZ
                go_wp2
                go_roundw
                case rel => exact ⟨m + 1, P8, Q8, V8, U8, by omega, by go_num, HT8⟩
                case measure => simp [intOf]; omega
              · have f2 : decide (gq < tq) = false := decide_eq_false q2
                have HT8 := Lib.hid (HT6.out.skip (HC.out _ _ (fun _ h => absurd h q2)))
                clear HT6 HC
                go_wp2
                go_roundw
                case rel => exact ⟨m + 1, P, Q, V, U, by omega, by go_num, HT8⟩
                case measure => simp [intOf]; omega
            · have f1 : decide (0 < gq) = false := decide_eq_false q1
              have HT8 := Lib.hid (HT6.out.skip (HC.out _ _ (fun h => absurd h q1)))
              clear HT6 HC
              go_wp2
              go_roundw
              case rel => exact ⟨m + 1, P, Q, V, U, by omega, by go_num, HT8⟩
              case measure => simp [intOf]; omega
        · obtain rfl : m = n := by omega
          have HT8 := Lib.hid HT.out.row
          clear HT
          go_wp2
          go_roundw
          case rel => exact ⟨m + 1, P, Q, V, U, by omega, by go_num, HT8⟩
          case measure => simp [intOf]; omega
    · obtain rfl : n = k := by omega
      go_wp2
      go_end0
      exact ⟨rfl, P, Q, V, U, HT.out⟩
end Go.Proofs.Ytimjepakdldacaa

/-
  plumeref.SolveOf at a right table of two rows: what it returns; nothing that was there is written.
-/
import Derived.Test.YtilgoinbajmamaaCandL
import Derived.Test.YtilgoinbajmamaaCLow
import Derived.Test.YtilgoinbajmamaaCLeast
import Derived.Test.YtilgoinbajmamaaCSortQ
import Derived.Test.YtilgoinbajmamaaPushQ
import Derived.Test.YtilgoinbajmamaaBox2
import Derived.BigRegion
import Derived.RegionTactic
import Derived.Deep.RegionLaw
import Derived.Deep.DeepMust
import Derived.Deep.DeepCutAuto
namespace Go.Proofs.Ytilgoinbajmamaa
open Go.RowKit Fm
set_option linter.unusedVariables false

theorem ownQ_lit2 (w : World) (x y x' y' : Int) : (w.alloc (.cells #[.int .i64 x, .int .i64 y, .int .i64 x', .int .i64 y'] 24)).ownsRow w.heap.size 24 2 (.slice (some ⟨w.heap.size, 0, none⟩) 2 2) 2 (G2 [(x, y), (x', y')]) :=
  ⟨rfl, .inr ⟨w.heap.size, 2, _, rfl, Nat.le_refl _, heap_alloc_new w _, Nat.le_refl _, by unfold maxLen; omega, rfl, rfl⟩⟩
theorem own2_cap {w : World} {B g n cap : Nat} {e : TypeId} {xs : List Value} (h : w.ownsRow B e 2 (.slice (some ⟨g, 0, none⟩) n cap) n xs) : n ≤ cap ∧ cap ≤ maxLen := by
  rcases h.2 with ⟨h, _⟩ | ⟨g', cap', cur, hv, _, hg, hnc, hm, hsz, _⟩
  · cases h
  · injection hv with hv1 _ hv3
    subst hv3
    exact ⟨hnc, hm⟩
theorem stored4 {W : World} {g h : Nat} (hne : g ≠ h) {x y x' y' P Q R S : Value} (h1 : W.cell? ⟨g, 0, none⟩ = some x) (h2 : W.cell? ⟨g, 1, none⟩ = some y) (h3 : W.cell? ⟨h, 0, none⟩ = some x') (h4 : W.cell? ⟨h, 1, none⟩ = some y')
    (f1 : W.frozen? ⟨g, 0, none⟩ = false) (f2 : W.frozen? ⟨g, 1, none⟩ = false) (f3 : W.frozen? ⟨h, 0, none⟩ = false) (f4 : W.frozen? ⟨h, 1, none⟩ = false) :
    ((((W.setCell ⟨g, 0, none⟩ P).setCell ⟨g, 1, none⟩ Q).setCell ⟨h, 0, none⟩ R).setCell ⟨h, 1, none⟩ S).cell? ⟨g, 0, none⟩ = some P ∧ ((((W.setCell ⟨g, 0, none⟩ P).setCell ⟨g, 1, none⟩ Q).setCell ⟨h, 0, none⟩ R).setCell ⟨h, 1, none⟩ S).cell? ⟨g, 1, none⟩ = some Q ∧
    ((((W.setCell ⟨g, 0, none⟩ P).setCell ⟨g, 1, none⟩ Q).setCell ⟨h, 0, none⟩ R).setCell ⟨h, 1, none⟩ S).cell? ⟨h, 0, none⟩ = some R ∧ ((((W.setCell ⟨g, 0, none⟩ P).setCell ⟨g, 1, none⟩ Q).setCell ⟨h, 0, none⟩ R).setCell ⟨h, 1, none⟩ S).cell? ⟨h, 1, none⟩ = some S := by
  have a := stored2 (P := P) (Q := Q) h1 h2 f1 f2
  have far : ∀ (U : World) (j k : Nat) (v : Value), (U.setCell ⟨g, k, none⟩ v).cell? ⟨h, j, none⟩ = U.cell? ⟨h, j, none⟩ := fun U j k v => World.cell?_setCell_other _ _ _ _ (fun e => hne (by injection e))
  have far2 : ∀ (U : World) (j k : Nat) (v : Value), (U.setCell ⟨h, k, none⟩ v).cell? ⟨g, j, none⟩ = U.cell? ⟨g, j, none⟩ := fun U j k v => World.cell?_setCell_other _ _ _ _ (fun e => hne (by injection e with e; exact e.symm))
  have b := stored2 (W := (W.setCell ⟨g, 0, none⟩ P).setCell ⟨g, 1, none⟩ Q) (g := h) (P := R) (Q := S) (x := x') (y := y') (by rw [far, far]; exact h3) (by rw [far, far]; exact h4) (by rw [World.frozen?_setCell, World.frozen?_setCell]; exact f3) (by rw [World.frozen?_setCell, World.frozen?_setCell]; exact f4)
  exact ⟨by rw [far2, far2]; exact a.1, by rw [far2, far2]; exact a.2.1, b.1, b.2.1⟩
/-- The boxes that SolveOf has at its end. -/
structure Bxs (w : World) (g11 : Nat) (bP bQ : Int) (W : World) : Prop where
  c1 : W.cell? ⟨g11, 0, none⟩ = some (.int .i64 bP)
  c2 : W.cell? ⟨g11, 1, none⟩ = some (.int .i64 bQ)
  r1 : W.cell? ⟨w.heap.size, 0, none⟩ = some (.int .i64 0)
  r2 : W.cell? ⟨w.heap.size, 1, none⟩ = some (.int .i64 0)
  r3 : W.cell? ⟨w.heap.size + 1, 0, none⟩ = some (.int .i64 0)
  r4 : W.cell? ⟨w.heap.size + 1, 1, none⟩ = some (.int .i64 0)
  f1 : W.frozen? ⟨w.heap.size, 0, none⟩ = false
  f2 : W.frozen? ⟨w.heap.size, 1, none⟩ = false
  f3 : W.frozen? ⟨w.heap.size + 1, 0, none⟩ = false
  f4 : W.frozen? ⟨w.heap.size + 1, 1, none⟩ = false
  s1 : g11 < W.heap.size
  s2 : w.heap.size + 1 < W.heap.size
  bel : Below w.heap.size w W
theorem Bxs.next {w W W' : World} {g11 : Nat} {bP bQ : Int} (hb : Below W.heap.size W W') (h : Bxs w g11 bP bQ W) : Bxs w g11 bP bQ W' where
  c1 := (hb.cell (p := ⟨g11, 0, none⟩) h.s1).trans h.c1
  c2 := (hb.cell (p := ⟨g11, 1, none⟩) h.s1).trans h.c2
  r1 := (hb.cell (p := ⟨w.heap.size, 0, none⟩) (Nat.lt_of_succ_lt h.s2)).trans h.r1
  r2 := (hb.cell (p := ⟨w.heap.size, 1, none⟩) (Nat.lt_of_succ_lt h.s2)).trans h.r2
  r3 := (hb.cell (p := ⟨w.heap.size + 1, 0, none⟩) h.s2).trans h.r3
  r4 := (hb.cell (p := ⟨w.heap.size + 1, 1, none⟩) h.s2).trans h.r4
  f1 := (hb.frozen (p := ⟨w.heap.size, 0, none⟩) (Nat.lt_of_succ_lt h.s2)).trans h.f1
  f2 := (hb.frozen (p := ⟨w.heap.size, 1, none⟩) (Nat.lt_of_succ_lt h.s2)).trans h.f2
  f3 := (hb.frozen (p := ⟨w.heap.size + 1, 0, none⟩) h.s2).trans h.f3
  f4 := (hb.frozen (p := ⟨w.heap.size + 1, 1, none⟩) h.s2).trans h.f4
  s1 := Nat.lt_of_lt_of_le h.s1 hb.size
  s2 := Nat.lt_of_lt_of_le h.s2 hb.size
  bel := h.bel.trans (hb.mono h.bel.size)
/-- What SolveOf leaves. -/
def SolveOut (k : Nat) (M : List (List Int)) (w : World) (e : Ending) (w' : World) : Prop := ∃ P Q V W, Sol M k P Q V W ∧ e = .returned (.tuple #[.agg #[.int .i64 P, .int .i64 Q], .agg #[.int .i64 V, .int .i64 W]]) ∧ Below w.heap.size w w'

set_option maxHeartbeats 8000000 in
set_option maxRecDepth 100000 in
theorem solveOf_any {M : List (List Int)} {k : Nat} (p : Pay 2 k M) (a : Option Addr) (n c : Nat) (w : World) (hr : RdR w w.heap.size a n M) :
    Calls Try.prog 10 #[.slice a n c] w (SolveOut k M w) := by
  obtain ⟨hnn, b, o, rfl, hbb, hsq⟩ := rdr_sqP hr p
  subst hnn
  obtain ⟨b0, o0, c0, hb0, hr0, _, _, hc0⟩ := hsq 0 (by omega)
  obtain ⟨b1, o1, c1, hb1, hr1, _, _, hc1⟩ := hsq 1 (by omega)
  rw [Nat.add_zero] at hr0
  have k1 := p.k1
  have k6 := p.k6
  have H0 : Hid (∀ y, y < k → w.cell? ⟨b0, o0 + y, none⟩ = some (.int .i64 (ent M 0 y))) := hc0
  have H1 : Hid (∀ y, y < k → w.cell? ⟨b1, o1 + y, none⟩ = some (.int .i64 (ent M 1 y))) := hc1
  have HEB : Hid (∀ e y, -1000 ≤ ent M e y ∧ ent M e y ≤ 1000) := fun e y => p.ent e y
  have HP := Lib.hid p
  have HR := Lib.hid hr
  have HPQ : Hid (∀ i j, cnP M i j = ent M 1 j - ent M 1 i ∧ cnQ M i j = (ent M 0 i - ent M 1 i) - (ent M 0 j - ent M 1 j)) := fun _ _ => ⟨rfl, rfl⟩
  have HOK : Hid (∀ i j, cnOk M i j ↔ 0 < cnQ M i j ∧ 0 ≤ cnP M i j ∧ cnP M i j ≤ cnQ M i j) := fun _ _ => Iff.rfl
  obtain ⟨CI, hCI⟩ : ∃ CI : Nat → Nat → List (Int × Int), ∀ i j, cnA M k i ++ cnI M i j = CI i j := ⟨_, fun _ _ => rfl⟩
  have HC0 : Hid (CI 0 0 = [(0, 1), (1, 1)]) := by show _ = _; rw [← hCI]; rfl
  have HCN : Hid (∀ i j, cnOk M i j → CI i j ++ [(cnP M i j, cnQ M i j)] = CI i (j + 1)) := fun i j h => by rw [← hCI, ← hCI, cnI, if_pos h, List.append_assoc]
  have HCS : Hid (∀ i j, ¬ cnOk M i j → CI i j = CI i (j + 1)) := fun i j h => by rw [← hCI, ← hCI, cnI, if_neg h, List.append_nil]
  have HCR : Hid (∀ i, CI i k = CI (i + 1) 0) := fun i => by rw [← hCI, ← hCI, cnA, cnI, List.append_nil]
  have HCE : Hid (CI k 0 = cnA M k k) := by show _ = _; rw [← hCI, cnI, List.append_nil]
  have HCL : Hid (∀ i j, i ≤ k → j ≤ k → (CI i j).length ≤ 100) := fun i j hi hj => by
    rw [← hCI, List.length_append]
    have h1 := cnA_len (M := M) (k := k) i
    have h2 := cnI_len (M := M) i j
    have : i * k ≤ 6 * 6 := Nat.mul_le_mul (by omega) k6
    omega
  obtain ⟨u1, u2, u3, u4, hsz, hbx⟩ := boxes2 w 24 0 0 0 0
  have own0 := ownQ_lit2 ((w.alloc (.cells #[.int .i64 0, .int .i64 0] 24)).alloc (.cells #[.int .i64 0, .int .i64 0] 24)) 0 1 1 1
  have hbl : Below ((w.alloc (.cells #[.int .i64 0, .int .i64 0] 24)).alloc (.cells #[.int .i64 0, .int .i64 0] 24)).heap.size ((w.alloc (.cells #[.int .i64 0, .int .i64 0] 24)).alloc (.cells #[.int .i64 0, .int .i64 0] 24)) (((w.alloc (.cells #[.int .i64 0, .int .i64 0] 24)).alloc (.cells #[.int .i64 0, .int .i64 0] 24)).alloc (.cells #[.int .i64 0, .int .i64 1, .int .i64 1, .int .i64 1] 24)) := (Below.refl _ _).alloc (Nat.le_refl _) _
  have hbw : Below w.heap.size w (((w.alloc (.cells #[.int .i64 0, .int .i64 0] 24)).alloc (.cells #[.int .i64 0, .int .i64 0] 24)).alloc (.cells #[.int .i64 0, .int .i64 1, .int .i64 1, .int .i64 1] 24)) := hbx.alloc hbx.size _
  have s0 := (hbw.cell (p := ⟨b, o, none⟩) (by exact hbb)).trans hr0
  have fz : (∀ t, ((w.alloc (.cells #[.int .i64 0, .int .i64 0] 24)).alloc (.cells #[.int .i64 0, .int .i64 0] 24)).frozen? ⟨w.heap.size, t, none⟩ = false) ∧ ∀ t, ((w.alloc (.cells #[.int .i64 0, .int .i64 0] 24)).alloc (.cells #[.int .i64 0, .int .i64 0] 24)).frozen? ⟨w.heap.size + 1, t, none⟩ = false :=
    ⟨fun t => by rw [World.frozen?_alloc_past _ _ _ (by simp), World.frozen?_alloc_at _ _ _ _ rfl], fun t => World.frozen?_alloc_at _ _ _ _ (by simp)⟩
  have HBX := Lib.hid hbx
  have HSZ : Hid (((w.alloc (.cells #[.int .i64 0, .int .i64 0] 24)).alloc (.cells #[.int .i64 0, .int .i64 0] 24)).heap.size = w.heap.size + 1 + 1) := by show _ = _; simp
  have HU := Lib.hid (show _ ∧ _ ∧ _ ∧ _ ∧ _ from ⟨u1, u2, u3, u4, hsz⟩)
  have HOW := Lib.hid own0
  have HBL := Lib.hid hbl
  have HFZ := Lib.hid fz
  clear hr hsq hc0 hc1 p hCI own0 u1 u2 u3 u4 hsz hbx hbl fz hbw
  go_enter Try.func10, Try.ntmps10
  go_wp2_with fail
  generalize (w.alloc (.cells #[.int .i64 0, .int .i64 0] 24)).alloc (.cells #[.int .i64 0, .int .i64 0] 24) = w2 at *
  generalize w2.alloc (.cells #[.int .i64 0, .int .i64 1, .int .i64 1, .int .i64 1] 24) = w3 at *
  have z2 := HBX.out.size
  have own1 : w3.ownsRow w2.heap.size 24 2 (.slice (some ⟨w.heap.size + 1 + 1, 0, none⟩) 2 2) (CI 0 0).length (G2 (CI 0 0)) := by rw [HC0.out, ← HSZ.out]; exact HOW.out
  clear s0
  go_loopw [4, 23] (fun av iv wr => ∃ i : Nat, i ≤ k ∧ iv = .int .i64 i ∧ wr.ownsRow w2.heap.size 24 2 av (CI i 0).length (G2 (CI i 0)) ∧ Below w2.heap.size w2 wr) (fun _ iv _ => k - (intOf iv).toNat)
  case atStart => exact ⟨0, Nat.zero_le _, rfl, own1, HBL.out⟩
  case round =>
    obtain ⟨i, hi, rfl, own, hbel⟩ := hrel
    clear own1
    by_cases hik : i < k
    · have hbF := HBX.out.trans (hbel.mono z2)
      have s0 := (hbF.cell (p := ⟨b, o, none⟩) (by exact hbb)).trans hr0
      have d1 : decide ((i : Int) < (k : Int)) = true := decide_eq_true (by omega)
      obtain ⟨wo, rfl⟩ : ∃ wo, wo = wr := ⟨_, rfl⟩
      clear hbF
      go_wp2_with fail
      clear s0
      go_loopw [4, 30] (fun av jv wr => ∃ j : Nat, j ≤ k ∧ jv = .int .i64 j ∧ wr.ownsRow w2.heap.size 24 2 av (CI i j).length (G2 (CI i j)) ∧ Below w2.heap.size w2 wr) (fun _ jv _ => k - (intOf jv).toNat)
      case atStart => exact ⟨0, Nat.zero_le _, rfl, own, hbel⟩
      case round =>
        clear own hbel
        obtain ⟨j, hj, rfl, own, hbel⟩ := hrel
        by_cases hjk : j < k
        · have hbF := HBX.out.trans (hbel.mono z2)
          have t0 := (hbF.cell (p := ⟨b, o, none⟩) (by exact hbb)).trans hr0
          have t1 := (hbF.cell (p := ⟨b, o + 1, none⟩) (by exact hbb)).trans hr1
          have t2 := (hbF.cell (p := ⟨b0, o0 + i, none⟩) (by exact hb0)).trans (H0.out i hik)
          have t3 := (hbF.cell (p := ⟨b0, o0 + j, none⟩) (by exact hb0)).trans (H0.out j hjk)
          have t4 := (hbF.cell (p := ⟨b1, o1 + i, none⟩) (by exact hb1)).trans (H1.out i hik)
          have t5 := (hbF.cell (p := ⟨b1, o1 + j, none⟩) (by exact hb1)).trans (H1.out j hjk)
          obtain ⟨e0, e0'⟩ := HEB.out 0 i
          obtain ⟨e1, e1'⟩ := HEB.out 0 j
          obtain ⟨e2, e2'⟩ := HEB.out 1 i
          obtain ⟨e3, e3'⟩ := HEB.out 1 j
          obtain ⟨p1, p2⟩ := HPQ.out i j
          have OK := Lib.hid (HOK.out i j)
          have CN := Lib.hid (HCN.out i j)
          have CS := Lib.hid (HCS.out i j)
          have hle := HCL.out i j hi hj
          have hz := hbel.size
          generalize ent M 0 i = xa at *
          generalize ent M 0 j = ya at *
          generalize ent M 1 i = xb at *
          generalize ent M 1 j = yb at *
          generalize cnP M i j = pp at *
          generalize cnQ M i j = qq at *
          obtain ⟨sa, hsa⟩ : ∃ sa, xa - xb = sa := ⟨_, rfl⟩
          obtain ⟨sb, hsb⟩ : ∃ sb, ya - yb = sb := ⟨_, rfl⟩
          have hpp : yb - xb = pp := p1.symm
          have hqq : sa - sb = qq := by omega
          have l1 : -2000 ≤ pp := by omega
          have l2 : pp ≤ 2000 := by omega
          have l3 : -4000 ≤ qq := by omega
          have l4 : qq ≤ 4000 := by omega
          have l5 : -2000 ≤ sa := by omega
          have l6 : sa ≤ 2000 := by omega
          have l7 : -2000 ≤ sb := by omega
          have l8 : sb ≤ 2000 := by omega
          clear p1 p2 hbF
          go_wp2_with fail
          go_quiet (fail)
          have t1' : (wr.drewN nq).cell? ⟨b, o + 1, none⟩ = some (.slice (some ⟨b1, o1, none⟩) k c1) := t1
          have t4' : (wr.drewN nq).cell? ⟨b1, o1 + i, none⟩ = some (.int .i64 xb) := t4
          have t5' : (wr.drewN nq).cell? ⟨b1, o1 + j, none⟩ = some (.int .i64 yb) := t5
          have own5 := own_drewN own nq
          have hb5 := below_drewN hbel nq
          have z5 : w2.heap.size ≤ (wr.drewN nq).heap.size := hz
          clear t0 t1 t2 t3 t4 t5 own hbel hz
          generalize wr.drewN nq = w5 at *
          go_wp2_with fail
          go_quiet (fail)
          have own6 := own_drewN own5 nq
          have hb6 := below_drewN hb5 nq
          have z6 : w2.heap.size ≤ (w5.drewN nq).heap.size := z5
          clear t1' t4' t5' own5 hb5 z5
          generalize w5.drewN nq = w6 at *
          by_cases q1 : 0 < qq
          · by_cases q2 : 0 ≤ pp
            · by_cases q3 : pp ≤ qq
              · have HN := Lib.hid (CN.out (OK.out.2 ⟨q1, q2, q3⟩))
                have f1 : decide (0 < qq) = true := decide_eq_true q1
                have f2 : decide (0 ≤ pp) = true := decide_eq_true q2
                have f3 : decide (pp ≤ qq) = true := decide_eq_true q3
                have hlen : (CI i (j + 1)).length = (CI i j).length + 1 := by rw [← HN.out, List.length_append]; rfl
                have HLE := Lib.hid hlen
                clear OK CN CS hlen
                generalize CI i j = L0 at *
                go_wp2_with (at_builtin; go_must (refine pushQ rfl _ _ rfl w6 w2.heap.size _ L0.length L0 pp qq rfl rfl (by exact own6) z6 (by omega) ?_))
                intro g7 cap7 w7 own7 hg7 _ _
                have hb7 := hb6.grown hg7 z6 (fun y hy => (own6.lt _ hy).1)
                have own8 : w7.ownsRow w2.heap.size 24 2 (.slice (some ⟨g7, 0, none⟩) (L0.length + 1) cap7) (CI i (j + 1)).length (G2 (CI i (j + 1))) := by rw [HLE.out, ← HN.out]; exact own7
                clear own6 own7 hg7 hb6
                go_wp2
                go_roundw
                case rel => exact ⟨j + 1, by omega, by go_num, own8, hb7⟩
                case measure => simp [intOf]; omega
              · have HN := Lib.hid (CS.out (fun h => q3 (OK.out.1 h).2.2))
                have f1 : decide (0 < qq) = true := decide_eq_true q1
                have f2 : decide (0 ≤ pp) = true := decide_eq_true q2
                have f3 : decide (pp ≤ qq) = false := decide_eq_false q3
                rw [HN.out] at own6
                clear OK CN CS
                go_wp2
                go_roundw
                case rel => exact ⟨j + 1, by omega, by go_num, own6, hb6⟩
                case measure => simp [intOf]; omega
            · have HN := Lib.hid (CS.out (fun h => q2 (OK.out.1 h).2.1))
              have f1 : decide (0 < qq) = true := decide_eq_true q1
              have f2 : decide (0 ≤ pp) = false := decide_eq_false q2
              rw [HN.out] at own6
              clear OK CN CS
              go_wp2
              go_roundw
              case rel => exact ⟨j + 1, by omega, by go_num, own6, hb6⟩
              case measure => simp [intOf]; omega
          · have HN := Lib.hid (CS.out (fun h => q1 (OK.out.1 h).1))
            have f1 : decide (0 < qq) = false := decide_eq_false q1
            rw [HN.out] at own6
            clear OK CN CS
            go_wp2
            go_roundw
            case rel => exact ⟨j + 1, by omega, by go_num, own6, hb6⟩
            case measure => simp [intOf]; omega
        · obtain rfl : j = k := by omega
          rw [HCR.out] at own
          go_wp2
          go_roundw
          case rel => exact ⟨i + 1, by omega, by go_num, own, hbel⟩
          case measure => simp [intOf]; omega
    · obtain rfl : i = k := by omega
      rw [HCE.out] at own
      have hC2 := cnA_two (M := M) i i
      have hCL : (cnA M i i).length ≤ 100 := by rw [← HCE.out]; exact HCL.out i 0 (Nat.le_refl _) (by omega)
      have hLQ : ∀ C : List P2, C.Perm (cnA M i i) → ∀ e, 0 ≤ (LQ C e).1 ∧ (LQ C e).1 ≤ (LQ C e).2 ∧ 1 ≤ (LQ C e).2 ∧ (LQ C e).2 ≤ 4000 := fun C hC e => by
        by_cases q : e < C.length
        · exact (cn_cand HP.out hC).rng _ (getD_q q)
        · unfold LQ
          rw [List.getD_eq_getElem?_getD, List.getElem?_eq_none (by omega)]
          decide
      obtain ⟨g, cap, rfl, _, _⟩ := own.form (by omega)
      obtain ⟨hmc, hcm⟩ := own2_cap own
      obtain ⟨hg1, hg2⟩ := own.lt g rfl
      have QS := Lib.hid (sortQ_any own (by omega) (fun e => by have := hLQ _ (List.Perm.refl _) e; omega))
      have HCL2 := Lib.hid hLQ
      have QL : Hid (∀ (W : World) (P Q : Int), Below w.heap.size w W → 0 ≤ P → P ≤ Q → Q ≤ 4000 → Calls Try.prog 29 #[.slice (some ⟨b, o, none⟩) 2 c, .int .i64 P, .int .i64 Q] W fun e w' => e = .returned (.int .i64 (lvOf M i P Q)) ∧ Below W.heap.size W w') := fun W P Q hW h1 h2 h3 => least_any HP.out h1 h2 h3 _ 2 c W (rdr_ext HR.out hW)
      obtain ⟨m, hm⟩ : ∃ m, (cnA M i i).length = m := ⟨_, rfl⟩
      have HM := Lib.hid hm
      rw [hm] at hC2 hCL hmc QS ⊢
      clear hm own hLQ HCL HCE HCR HCS HCN HC0 HOK HPQ H0 H1 hr0 hr1
      go_wp2_with fail
      refine QS.out.mono ?_
      rintro e w8 ⟨rfl, C, hperm, hasc, hcells, hgr⟩
      have hb8 := hbel.grown hgr hbel.size (fun z hz => by injection hz with hz; omega)
      have hz8 := hb8.size
      have hg8 : g < w8.heap.size := Nat.lt_of_lt_of_le hg2 hgr.size
      have HCA := Lib.hid (cn_cand HP.out hperm)
      have hlC : C.length = m := by rw [hperm.length_eq]; exact HM.out
      have HAS : Hid (Asc C) := fun x y h1 h2 => hasc x y h1 (by omega)
      have HCB := Lib.hid (HCL2.out C hperm)
      have HCC := Lib.hid hcells
      have HCE : Hid (∀ x, C.getD x (0, 1) = LQ C x) := fun _ => rfl
      have c1 : w8.cell? ⟨g, 0, none⟩ = some (.int .i64 (LQ C 0).1) := by have := hcells 0 0 (by omega) (by omega); exact this
      have c2 : w8.cell? ⟨g, 1, none⟩ = some (.int .i64 (LQ C 0).2) := by have := hcells 0 1 (by omega) (by omega); exact this
      obtain ⟨r1, r2, r3, r4⟩ := HCB.out 0
      have hbW := HBX.out.trans (hb8.mono z2)
      have HBW := Lib.hid hbW
      clear QS hbel hgr hperm hasc hcells HCL2 HM hbW
      obtain ⟨P0, hP0⟩ : ∃ P0, (LQ C 0).1 = P0 := ⟨_, rfl⟩
      obtain ⟨Q0, hQ0⟩ : ∃ Q0, (LQ C 0).2 = Q0 := ⟨_, rfl⟩
      have HPQ0 := Lib.hid (show _ ∧ _ from ⟨hP0, hQ0⟩)
      rw [hP0] at c1 r1 r2
      rw [hQ0] at c2 r2 r3 r4
      clear hP0 hQ0
      have QL0 : Hid (∀ W : World, Below w8.heap.size w8 W → Calls Try.prog 29 #[.slice (some ⟨b, o, none⟩) 2 c, .int .i64 P0, .int .i64 Q0] W fun e w' => e = .returned (.int .i64 (lvOf M i P0 Q0)) ∧ Below W.heap.size W w') := fun W hW => QL.out W P0 Q0 (HBW.out.trans (hW.mono (by have := HBX.out.size; omega))) r1 r2 r4
      have hm0 : 0 < m := by omega
      have hm1 : (0 : Int) < (m : Int) := by omega
      go_upto_region 15 with fail
      go_cut [11, 12] (fun s11 s12 wx => ∃ g11, s11 = .pointer (some ⟨g11, 0, none⟩) ∧ s12 = .int .i64 (lvOf M i P0 Q0) ∧ wx.cell? ⟨g11, 0, none⟩ = some (.int .i64 P0) ∧ wx.cell? ⟨g11, 1, none⟩ = some (.int .i64 Q0) ∧ wx.frozen? ⟨g11, 0, none⟩ = false ∧ wx.frozen? ⟨g11, 1, none⟩ = false ∧ w8.heap.size ≤ g11 ∧ g11 < wx.heap.size ∧ Below w8.heap.size w8 wx)
      case' first =>
        go_region_law (first
          | (go_simp; go_at_call 29
             with_reducible refine (QL0.out _ (by first | exact (Below.refl _ w8).drew | exact ((Below.refl _ w8).alloc (Nat.le_refl _) _).drew)).mono ?_
             rintro e w9 ⟨rfl, hb9⟩
             have hbz : Below w8.heap.size w8 w9 := by first | exact (Below.refl _ w8).drew.trans hb9 | exact ((Below.refl _ w8).alloc (Nat.le_refl _) _).drew.trans (hb9.mono (Below.alloc (Below.refl _ w8) (Nat.le_refl _) _).size)
             have c1' := (hbz.cell (p := ⟨g, 0, none⟩) (by exact hg8)).trans c1
             have c2' := (hbz.cell (p := ⟨g, 1, none⟩) (by exact hg8)).trans c2
             have hg9 : g < w9.heap.size := Nat.lt_of_lt_of_le hg8 hbz.size
             try
               have y0 := boxQ w8 24 0 0
               have y1 : w9.cell? ⟨w8.heap.size, 0, none⟩ = some (.int .i64 0) := (hb9.cell (p := ⟨w8.heap.size, 0, none⟩) (by simp)).trans y0.1
               have y2 : w9.cell? ⟨w8.heap.size, 1, none⟩ = some (.int .i64 0) := (hb9.cell (p := ⟨w8.heap.size, 1, none⟩) (by simp)).trans y0.2.1
               have y3 : w9.frozen? ⟨w8.heap.size, 0, none⟩ = false := (hb9.frozen (p := ⟨w8.heap.size, 0, none⟩) (by simp)).trans (y0.2.2 0)
               have y4 : w9.frozen? ⟨w8.heap.size, 1, none⟩ = false := (hb9.frozen (p := ⟨w8.heap.size, 1, none⟩) (by simp)).trans (y0.2.2 1)
               have y5 : w8.heap.size < w9.heap.size := Nat.lt_of_lt_of_le (by simp) hb9.size))
        all_goals
          go_wp2_with fail
          go_meet
          first
            | (have q := stored2 (P := .int .i64 P0) (Q := .int .i64 Q0) y1 y2 y3 y4
               exact ⟨_, rfl, rfl, q.1, q.2.1, q.2.2.1, q.2.2.2.1, Nat.le_refl _, by rw [q.2.2.2.2]; exact y5, (hbz.setCell (p := ⟨w8.heap.size, 0, none⟩) (Nat.le_refl _) _).setCell (p := ⟨w8.heap.size, 1, none⟩) (Nat.le_refl _) _⟩)
            | (have y0 := boxQ w9 24 P0 Q0
               exact ⟨_, rfl, rfl, y0.1, y0.2.1, y0.2.2 0, y0.2.2 1, hbz.size, by simp, hbz.alloc hbz.size _⟩)
      case rest =>
        obtain ⟨g11, rfl, rfl, x1, x2, x3, x4, x5, x6, hb9⟩ := hcut
        have hc1 : cap ≠ 1 := by omega
        have hc2 : 1 ≤ cap := by omega
        clear c1 c2 QL0
        go_wp2_with fail
        obtain ⟨m1, hm1'⟩ : ∃ m1, m - 1 = m1 := ⟨_, rfl⟩
        rw [hm1']
        have hmm : m = m1 + 1 := by omega
        have HMM := Lib.hid hmm
        have hm99 : m1 ≤ 99 := by omega
        have HFB : Hid (∀ e, -4000000 ≤ lvOf M i (LQ C e).1 (LQ C e).2 ∧ lvOf M i (LQ C e).1 (LQ C e).2 ≤ 4000000) := fun e => by
          obtain ⟨s1, s2, s3, s4⟩ := HCB.out e
          have := lvOf_bd HP.out s1 s2
          omega
        have HB0 : Hid (BestTo (lvOf M i) C 1 0) := BestTo.one _ _
        have HST : Hid (∀ n b, BestTo (lvOf M i) C n b → ¬ lvOf M i (LQ C b).1 (LQ C b).2 * (LQ C n).2 < lvOf M i (LQ C n).1 (LQ C n).2 * (LQ C b).2 → BestTo (lvOf M i) C (n + 1) b) := fun n b h hn => h.stay hn
        have HMV : Hid (∀ n b, BestTo (lvOf M i) C n b → lvOf M i (LQ C b).1 (LQ C b).2 * (LQ C n).2 < lvOf M i (LQ C n).1 (LQ C n).2 * (LQ C b).2 → BestTo (lvOf M i) C (n + 1) n) := fun n b h hn => h.move (fun e => (HCB.out e).2.2.1) hn
        rw [← HPQ0.out.1] at x1
        rw [← HPQ0.out.2] at x2
        rw [← HPQ0.out.1, ← HPQ0.out.2]
        clear hm1' hmm r1 r2 r3 r4 HPQ0
        have zw := Nat.le_trans HBX.out.size hz8
        go_loopw [12, 112] (fun vv iv wr => ∃ (j bI : Nat), j ≤ m1 ∧ iv = .int .i64 j ∧ vv = .int .i64 (lvOf M i (LQ C bI).1 (LQ C bI).2) ∧ Hid (BestTo (lvOf M i) C (j + 1) bI) ∧ wr.cell? ⟨g11, 0, none⟩ = some (.int .i64 (LQ C bI).1) ∧ wr.cell? ⟨g11, 1, none⟩ = some (.int .i64 (LQ C bI).2) ∧ wr.frozen? ⟨g11, 0, none⟩ = false ∧ wr.frozen? ⟨g11, 1, none⟩ = false ∧ g11 < wr.heap.size ∧ Below w8.heap.size w8 wr) (fun _ iv _ => m1 - (intOf iv).toNat)
        case atStart => exact ⟨0, 0, Nat.zero_le _, rfl, rfl, HB0, x1, x2, x3, x4, x6, hb9⟩
        case round =>
          clear x1 x2 x3 x4 x6 hb9 HB0
          obtain ⟨j, bI, hj, rfl, rfl, HBT, x1, x2, x3, x4, x6, hb9⟩ := hrel
          by_cases hjm : j < m1
          · have hb9w : Below w.heap.size w wr := HBW.out.trans (hb9.mono zw)
            have s1 : wr.cell? ⟨g, 2 + j * 2, none⟩ = some (.int .i64 (LQ C (j + 1)).1) := by
              have := HCC.out (j + 1) 0 (by have := HMM.out; omega) (by omega)
              rw [show (j + 1) * 2 + 0 = 2 + j * 2 by omega] at this
              exact (hb9.cell (p := ⟨g, 2 + j * 2, none⟩) (by exact hg8)).trans this
            have s2 : wr.cell? ⟨g, 2 + j * 2 + 1, none⟩ = some (.int .i64 (LQ C (j + 1)).2) := by
              have := HCC.out (j + 1) 1 (by have := HMM.out; omega) (by omega)
              rw [show (j + 1) * 2 + 1 = 2 + j * 2 + 1 by omega] at this
              exact (hb9.cell (p := ⟨g, 2 + j * 2 + 1, none⟩) (by exact hg8)).trans this
            obtain ⟨r1, r2, r3, r4⟩ := HCB.out (j + 1)
            obtain ⟨q1, q2, q3, q4⟩ := HCB.out bI
            obtain ⟨f1, f2⟩ := HFB.out (j + 1)
            obtain ⟨f3, f4⟩ := HFB.out bI
            have ST := Lib.hid (HST.out (j + 1) bI HBT.out)
            have MV := Lib.hid (HMV.out (j + 1) bI HBT.out)
            have HE : Hid (∃ X Y, (LQ C (j + 1)).1 = X ∧ (LQ C (j + 1)).2 = Y) := ⟨_, _, rfl, rfl⟩
            have Q5 : Hid (Calls Try.prog 29 #[.slice (some ⟨b, o, none⟩) 2 c, .int .i64 (LQ C (j + 1)).1, .int .i64 (LQ C (j + 1)).2] (wr.alloc (.cells #[.int .i64 (LQ C (j + 1)).1, .int .i64 (LQ C (j + 1)).2] 24)) fun e w' => e = .returned (.int .i64 (lvOf M i (LQ C (j + 1)).1 (LQ C (j + 1)).2)) ∧ Below (wr.alloc (.cells #[.int .i64 (LQ C (j + 1)).1, .int .i64 (LQ C (j + 1)).2] 24)).heap.size (wr.alloc (.cells #[.int .i64 (LQ C (j + 1)).1, .int .i64 (LQ C (j + 1)).2] 24)) w') := QL.out _ _ _ (hb9w.alloc hb9w.size _) r1 r2 r4
            obtain ⟨VN, hVN⟩ : ∃ VN, lvOf M i (LQ C (j + 1)).1 (LQ C (j + 1)).2 = VN := ⟨_, rfl⟩
            obtain ⟨VB, hVB⟩ : ∃ VB, lvOf M i (LQ C bI).1 (LQ C bI).2 = VB := ⟨_, rfl⟩
            obtain ⟨X, hX⟩ : ∃ X, (LQ C (j + 1)).1 = X := ⟨_, rfl⟩
            obtain ⟨Y, hY⟩ : ∃ Y, (LQ C (j + 1)).2 = Y := ⟨_, rfl⟩
            obtain ⟨bP, hbP⟩ : ∃ bP, (LQ C bI).1 = bP := ⟨_, rfl⟩
            obtain ⟨bQ, hbQ⟩ : ∃ bQ, (LQ C bI).2 = bQ := ⟨_, rfl⟩
            have HLET := Lib.hid (show _ ∧ _ ∧ _ ∧ _ ∧ _ ∧ _ from ⟨hVN, hVB, hX, hY, hbP, hbQ⟩)
            rw [hVN] at f1 f2 Q5 ST MV
            rw [hVB] at f3 f4 ST MV ⊢
            rw [hX] at s1 r1 r2 Q5
            rw [hY] at s2 r2 r3 r4 Q5 ST MV
            rw [hbP] at x1 q1 q2
            rw [hbQ] at x2 q2 q3 q4 ST MV
            clear hVN hVB hX hY hbP hbQ HE hb9w
            obtain ⟨A, hA⟩ : ∃ A, VN * bQ = A := ⟨_, rfl⟩
            obtain ⟨B2, hB2⟩ : ∃ B2, VB * Y = B2 := ⟨_, rfl⟩
            rw [hA, hB2] at ST MV
            have la : -16000000000 ≤ A ∧ A ≤ 16000000000 := by
              rw [← hA]
              have a1 := Int.mul_le_mul_of_nonneg_right f1 (show 0 ≤ bQ by omega)
              have a2 := Int.mul_le_mul_of_nonneg_right f2 (show 0 ≤ bQ by omega)
              omega
            have lb : -16000000000 ≤ B2 ∧ B2 ≤ 16000000000 := by
              rw [← hB2]
              have a1 := Int.mul_le_mul_of_nonneg_right f3 (show 0 ≤ Y by omega)
              have a2 := Int.mul_le_mul_of_nonneg_right f4 (show 0 ≤ Y by omega)
              omega
            obtain ⟨la1, la2⟩ := la
            obtain ⟨lb1, lb2⟩ := lb
            go_wp2_with fail
            refine Q5.out.mono ?_
            rintro e w6 ⟨rfl, hb6⟩
            have yb := boxQ wr 24 X Y
            have y1 : w6.cell? ⟨wr.heap.size, 0, none⟩ = some (.int .i64 X) := (hb6.cell (p := ⟨wr.heap.size, 0, none⟩) (by simp)).trans yb.1
            have y2 : w6.cell? ⟨wr.heap.size, 1, none⟩ = some (.int .i64 Y) := (hb6.cell (p := ⟨wr.heap.size, 1, none⟩) (by simp)).trans yb.2.1
            have hba : Below wr.heap.size wr (wr.alloc (.cells #[.int .i64 X, .int .i64 Y] 24)) := (Below.refl _ wr).alloc (Nat.le_refl _) _
            have hb16 := ext_trans hba hb6
            have v1 := (hb16.cell (p := ⟨g11, 0, none⟩) (by exact x6)).trans x1
            have v2 := (hb16.cell (p := ⟨g11, 1, none⟩) (by exact x6)).trans x2
            have v3 := (hb16.frozen (p := ⟨g11, 0, none⟩) (by exact x6)).trans x3
            have v4 := (hb16.frozen (p := ⟨g11, 1, none⟩) (by exact x6)).trans x4
            have v5 : g11 < w6.heap.size := Nat.lt_of_lt_of_le x6 hb16.size
            have hbN : Below w8.heap.size w8 w6 := hb9.trans (hb16.mono hb9.size)
            have hne : g11 ≠ wr.heap.size := by omega
            clear Q5 yb hba hb16 hb6 x1 x2 x3 x4 s1 s2
            generalize wr.heap.size = g14 at *
            by_cases q : B2 < A
            · have dq : decide (B2 < A) = true := decide_eq_true q
              have HN := Lib.hid (MV.out q)
              have st := stored2 (P := .int .i64 X) (Q := .int .i64 Y) v1 v2 v3 v4
              have hbS : Below w8.heap.size w8 ((w6.setCell ⟨g11, 0, none⟩ (.int .i64 X)).setCell ⟨g11, 1, none⟩ (.int .i64 Y)) := (hbN.setCell (p := ⟨g11, 0, none⟩) (by exact x5) _).setCell (p := ⟨g11, 1, none⟩) (by exact x5) _
              have HS := Lib.hid (show _ ∧ _ from ⟨st, hbS⟩)
              clear ST MV st hbS hbN
              go_wp2
              go_roundw
              case rel => exact ⟨j + 1, j + 1, by omega, by go_num, by rw [HLET.out.1], HN, by rw [HLET.out.2.2.1]; exact HS.out.1.1, by rw [HLET.out.2.2.2.1]; exact HS.out.1.2.1, HS.out.1.2.2.1, HS.out.1.2.2.2.1, by rw [HS.out.1.2.2.2.2]; exact v5, HS.out.2⟩
              case measure => simp [intOf]; omega
            · have dq : decide (B2 < A) = false := decide_eq_false q
              have HN := Lib.hid (ST.out (by omega))
              clear ST MV
              go_wp2
              go_roundw
              case rel => exact ⟨j + 1, bI, by omega, by go_num, by rw [HLET.out.2.1], HN, by rw [HLET.out.2.2.2.2.1]; exact v1, by rw [HLET.out.2.2.2.2.2]; exact v2, v3, v4, v5, hbN⟩
              case measure => simp [intOf]; omega
          · obtain rfl : j = m1 := by omega
            have hbt := HBT.out
            rw [← HMM.out, ← hlC] at hbt
            have HBC := Lib.hid (best_to HAS.out hbt)
            obtain ⟨q1, q2, q3, q4⟩ := HCB.out bI
            obtain ⟨f3, f4⟩ := HFB.out bI
            have z8 : w2.heap.size ≤ wr.heap.size := Nat.le_trans hz8 hb9.size
            have hb2 : Below w2.heap.size w2 wr := hb8.trans (hb9.mono hz8)
            obtain ⟨u1, u2, u3, u4, u5⟩ := HU.out
            have n1 := (hb2.cell (p := ⟨w.heap.size, 0, none⟩) (by show w.heap.size < _; omega)).trans u1
            have n2 := (hb2.cell (p := ⟨w.heap.size, 1, none⟩) (by show w.heap.size < _; omega)).trans u2
            have n3 := (hb2.cell (p := ⟨w.heap.size + 1, 0, none⟩) (by exact u5)).trans u3
            have n4 := (hb2.cell (p := ⟨w.heap.size + 1, 1, none⟩) (by exact u5)).trans u4
            have n5 := (hb2.frozen (p := ⟨w.heap.size, 0, none⟩) (by show w.heap.size < _; omega)).trans (HFZ.out.1 0)
            have n6 := (hb2.frozen (p := ⟨w.heap.size, 1, none⟩) (by show w.heap.size < _; omega)).trans (HFZ.out.1 1)
            have n7 := (hb2.frozen (p := ⟨w.heap.size + 1, 0, none⟩) (by exact u5)).trans (HFZ.out.2 0)
            have n8 := (hb2.frozen (p := ⟨w.heap.size + 1, 1, none⟩) (by exact u5)).trans (HFZ.out.2 1)
            have hbw : Below w.heap.size w wr := HBX.out.trans (hb2.mono z2)
            have hs1 : w.heap.size + 1 < wr.heap.size := by omega
            have k1' := HP.out.k1
            have HSOL : Hid (∀ P Q V W g h : Int, 1 ≤ g → 1 ≤ h → (LQ C bI).1 = P * g → (LQ C bI).2 = Q * g → lvOf M i (LQ C bI).1 (LQ C bI).2 = V * h → (LQ C bI).2 = W * h → Int.gcd P Q = 1 → Int.gcd V W = 1 → Sol M i P Q V W) := fun P Q V W g h h1 h2 h3 h4 h5 h6 h7 h8 => best_sol HCA.out k1' HBC.out h1 h2 h3 h4 h5 h6 h7 h8
            generalize lvOf M i (LQ C bI).1 (LQ C bI).2 = VB at *
            generalize (LQ C bI).1 = bP at *
            generalize (LQ C bI).2 = bQ at *
            have QA : Hid (∀ W, Calls Try.prog 30 #[.int .i64 bP, .int .i64 bQ] W (LowOut bP bQ W)) := fun W => low_any bP bQ (by omega) (by omega) (by omega) (by omega) W
            have QB : Hid (∀ W, Calls Try.prog 30 #[.int .i64 VB, .int .i64 bQ] W (LowOut VB bQ W)) := fun W => low_any VB bQ (by omega) (by omega) (by omega) (by omega) W
            clear HBT hbt HBC HCA HAS HU HFZ hb2 hb9 x3 x4 hb8 u1 u2 u3 u4 u5 HST HMV HFB HCB HCC HBW QL HBX HP HR
            unfold LowOut at QA QB
            have BX : Bxs w g11 bP bQ wr.drew := ⟨x1, x2, n1, n2, n3, n4, n5, n6, n7, n8, x6, hs1, hbw.drew⟩
            go_wp2_with fail
            go_region_law (first
              | (go_simp; go_at_call 30
                 with_reducible refine (QA.out _).mono ?_
                 rintro e wa ⟨PA, QX, gA, a1, a2, a3, a4, rfl, hbA⟩
                 have HEA := Lib.hid (show _ ∧ _ ∧ _ ∧ _ from ⟨a1, a2, a3, a4⟩)
                 clear a1 a2 a3 a4
                 have BX := Bxs.next hbA (by assumption)
                 have v1 := BX.c1
                 have v2 := BX.c2
                 have n1 := BX.r1
                 have n2 := BX.r2
                 have n3 := BX.r3
                 have n4 := BX.r4
                 have n5 := BX.f1
                 have n6 := BX.f2
                 have n7 := BX.f3
                 have n8 := BX.f4)
              | (go_simp; go_at_call 30
                 with_reducible refine (QB.out _).mono ?_
                 rintro e wb ⟨PB, QY, gB, b1', b2', b3', b4', rfl, hbB⟩
                 have HEB := Lib.hid (show _ ∧ _ ∧ _ ∧ _ from ⟨b1', b2', b3', b4'⟩)
                 clear b1' b2' b3' b4'
                 have BX := Bxs.next hbB (by assumption)
                 have v1 := BX.c1
                 have v2 := BX.c2
                 have n1 := BX.r1
                 have n2 := BX.r2
                 have n3 := BX.r3
                 have n4 := BX.r4
                 have n5 := BX.f1
                 have n6 := BX.f2
                 have n7 := BX.f3
                 have n8 := BX.f4))
            all_goals
              have st := stored4 (g := w.heap.size) (h := w.heap.size + 1) (by omega) (P := .int .i64 PA) (Q := .int .i64 QX) (R := .int .i64 PB) (S := .int .i64 QY) n1 n2 n3 n4 n5 n6 n7 n8
              go_wp2_with fail
              (try simp only [Exit.inBlock, Exit.then])
              refine bodyPost_ret (v := .tuple #[.agg #[.int .i64 PA, .int .i64 QX], .agg #[.int .i64 PB, .int .i64 QY]]) (by simp [results, Try.results10, go_sem, st.1, st.2.1, st.2.2.1, st.2.2.2]) rfl ?_
              obtain ⟨a1, a2, a3, a4⟩ := HEA.out
              obtain ⟨b1', b2', b3', b4'⟩ := HEB.out
              exact ⟨PA, QX, PB, QY, HSOL.out PA QX PB QY gA gB a1 b1' a2 a3 b2' b3' a4 b4', rfl, (((BX.bel.setCell (p := ⟨w.heap.size, 0, none⟩) (Nat.le_refl _) _).setCell (p := ⟨w.heap.size, 1, none⟩) (Nat.le_refl _) _).setCell (p := ⟨w.heap.size + 1, 0, none⟩) (Nat.le_succ _) _).setCell (p := ⟨w.heap.size + 1, 1, none⟩) (Nat.le_succ _) _⟩
end Go.Proofs.Ytilgoinbajmamaa

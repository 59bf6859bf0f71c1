/-
  plumekeep.MixedOther returns true, for every slice of slices of ints, if mixed.Solve keeps its contract; nothing that was there is written.
-/
import Derived.Test.YtilgoinbajmamaaLawMixedBounds
import Derived.Test.YtilgoinbajmamaaOtherMath
import Derived.Test.YtilgoinbajmamaaSqPay
import Derived.Test.YtilgoinbajmamaaPairs
import Derived.Deep.DeepCutAuto
import Derived.BigQuiet
import Derived.Deep.QuietTactic
namespace Go.Proofs.Ytilgoinbajmamaa
open Go.RowKit Fm
set_option linter.unusedVariables false

theorem own2_lit2 (w : World) (x y x' y' : Int) : (w.alloc (.cells #[.int .i64 x, .int .i64 y, .int .i64 x', .int .i64 y'] 38)).ownsRow w.heap.size 38 2 (.slice (some ⟨w.heap.size, 0, none⟩) 2 2) 2 (G2 [(x, y), (x', y')]) :=
  ⟨rfl, .inr ⟨w.heap.size, 2, _, rfl, Nat.le_refl _, heap_alloc_new w _, Nat.le_refl _, by unfold maxLen; omega, rfl, rfl⟩⟩
theorem boxO (w : World) (t : TypeId) (x y : Int) :
    (w.alloc (.cells #[.int .i64 x, .int .i64 y] t)).cell? ⟨w.heap.size, 0, none⟩ = some (.int .i64 x) ∧ (w.alloc (.cells #[.int .i64 x, .int .i64 y] t)).cell? ⟨w.heap.size, 1, none⟩ = some (.int .i64 y) := by
  constructor <;> simp [World.cell?_alloc_new]

set_option maxHeartbeats 8000000 in
set_option maxRecDepth 100000 in
theorem mixedOther_is (mE : MSolveE) (mS : MSolve) (v : Value) (L : List (List Int)) {w : World} (f : IsRows w v L) :
    Calls Try.prog 5 #[v] w fun e w' => e = .returned (.bool true) ∧ Below w.heap.size w w' := by
  obtain ⟨a, c, rfl, hr, hall, hlc, _, hcm, h24⟩ := f
  have W0 := Lib.hid (mixes_any mS w)
  have Q2 : Hid (∀ W, Below w.heap.size w W → Calls Try.prog 12 #[.slice a L.length c] W fun e w' => e = .returned (.slice a (min L.length 2) c) ∧ W = w') := fun W hW => two_any a L.length c L W (rdr_ext hr hW) (by omega) hlc (by unfold maxLen at hcm; omega)
  have HT := Lib.hid (cut_in hr h24 hall).2
  have HRR := Lib.hid (cut_in hr h24 hall).1
  have hgd := ratioGuard
  have h00 : ∀ w, (Op.equalIn 10000 24 (.agg #[.int .i64 0, .int .i64 0]) (.agg #[.int .i64 0, .int .i64 0])).run Try.prog w = .ok true w := fun w => by rw [ratioIn]; rfl
  clear hr hall h24
  generalize L.take (min L.length 2) = M at *
  generalize min L.length 2 = n at *
  go_enter Try.func5, Try.ntmps5
  go_wp2_with fail
  refine W0.out.mono ?_
  rintro e w2 ⟨rfl, hb02⟩
  clear W0
  go_wp2_with fail
  refine (Q2.out w2 hb02).mono ?_
  rintro e w2' ⟨rfl, rfl⟩
  clear Q2
  by_cases h0 : mxchk M = 0
  · obtain ⟨_, p⟩ := mxchk_ok h0
    obtain ⟨k, hk⟩ : ∃ k, (M.getD 0 []).length = k := ⟨_, rfl⟩
    rw [hk] at p
    have k1 := p.k1
    have k6 := p.k6
    have QS := Lib.hid (mS k a n c M w2 (HT.out.below hb02) p)
    clear h0 hk mE mS
    go_wp2_with fail
    refine QS.out.mono ?_
    rintro e w3 ⟨P, Q, V, W, hs, rfl, hb3⟩
    have hb03 := ext_trans hb02 hb3
    obtain ⟨u1, u2, u3, u4, hsz, hbx⟩ := boxes2 w3 24 P Q V W
    have hb04 := ext_trans hb03 hbx
    have l5 := sol_bd hs p
    have w1' := hs.w1
    have wb' := hs.wb
    have HEX := Lib.hid (other_ok hs p)
    have HPT : Hid (∀ (e i j : Nat) (s t : Int), (s, t) ∈ trL M i j → ∃ A B C D : Int, ent M e i * s = A ∧ ent M e j * (t - s) = B ∧ (A + B) * W = C ∧ V * t = D ∧ -10000000 ≤ A ∧ A ≤ 10000000 ∧ -10000000 ≤ B ∧ B ≤ 10000000 ∧ -80000000000 ≤ C ∧ C ≤ 80000000000 ∧ -20000000000 ≤ D ∧ D ≤ 20000000000) := fun e i j s t h => tr_parts p l5 w1' wb' e i j h
    have HTB : Hid (∀ i j, ∀ x ∈ trL M i j, -4000 ≤ x.1 ∧ x.1 ≤ 4000 ∧ -4000 ≤ x.2 ∧ x.2 ≤ 4000) := fun i j x hx => tr_bd p hx
    have HTR : Hid (∀ i j, trL M i j = [(1, 1), (0, 1)] ++ if downO M i j ≠ 0 then [lastO M i j] else []) := fun _ _ => rfl
    have HLA : Hid (∀ i j, lastO M i j = if downO M i j < 0 then (-upO M i j, -downO M i j) else (upO M i j, downO M i j)) := fun _ _ => rfl
    have HUP : Hid (∀ i j, upO M i j = ent M 1 j - ent M 0 j ∧ downO M i j = ent M 0 i - ent M 0 j - ent M 1 i + ent M 1 j) := fun _ _ => ⟨rfl, rfl⟩
    have HOK : Hid (∀ i j s t, okO M V W i j (s, t) ↔ (0 ≤ s ∧ s ≤ t ∧ (ent M 0 i * s + ent M 0 j * (t - s)) * W ≤ V * t ∧ (ent M 1 i * s + ent M 1 j * (t - s)) * W ≤ V * t)) := fun i j s t => Iff.rfl
    have HEB : Hid (∀ e y, -1000 ≤ ent M e y ∧ ent M e y ≤ 1000) := fun e y => p.ent e y
    obtain ⟨hnn, b, o, rfl, hbb, hsq⟩ := rdr_sqP HRR.out p
    subst hnn
    obtain ⟨b0, o0, c0, hb0, hr0, _, _, hc0⟩ := hsq 0 (by omega)
    obtain ⟨b1, o1, c1, hb1, hr1, _, _, hc1⟩ := hsq 1 (by omega)
    rw [Nat.add_zero] at hr0
    have s0 := (hb04.cell (p := ⟨b, o, none⟩) (by exact hbb)).trans hr0
    have s1 := (hb04.cell (p := ⟨b, o + 1, none⟩) (by exact hbb)).trans hr1
    have HB0 : Hid (∀ y, y < k → ((w3.alloc (.cells #[.int .i64 P, .int .i64 Q] 24)).alloc (.cells #[.int .i64 V, .int .i64 W] 24)).cell? ⟨b0, o0 + y, none⟩ = some (.int .i64 (ent M 0 y))) := fun y hy => (hb04.cell (p := ⟨b0, o0 + y, none⟩) (by exact hb0)).trans (hc0 y hy)
    have HB1 : Hid (∀ y, y < k → ((w3.alloc (.cells #[.int .i64 P, .int .i64 Q] 24)).alloc (.cells #[.int .i64 V, .int .i64 W] 24)).cell? ⟨b1, o1 + y, none⟩ = some (.int .i64 (ent M 1 y))) := fun y hy => (hb04.cell (p := ⟨b1, o1 + y, none⟩) (by exact hb1)).trans (hc1 y hy)
    have hlt : b < w.heap.size := hbb
    have z04 := hb04.size
    clear QS hb3 hb03 hbx hs p hb02 hsq hr0 hr1 hc0 hc1 u1 u2 HT
    go_wp2_with fail
    generalize (w3.alloc (.cells #[.int .i64 P, .int .i64 Q] 24)).alloc (.cells #[.int .i64 V, .int .i64 W] 24) = w4 at *
    generalize w3.heap.size = g at *
    have HB4 := Lib.hid hb04
    clear hb04
    go_loopw [40] (fun iv wr => ∃ i : Nat, i ≤ k ∧ iv = .int .i64 i ∧ Hid (∀ i', i' < i → ∀ j', j' < k → ∀ x ∈ trL M i' j', ¬ okO M V W i' j' x) ∧ Below w4.heap.size w4 wr) (fun iv _ => k - (intOf iv).toNat)
    case atStart => exact ⟨0, Nat.zero_le _, rfl, (show Hid _ from fun i' h => by omega), Below.refl _ w4⟩
    case round =>
      obtain ⟨i, hi, rfl, HNI, hbel⟩ := hrel
      by_cases hik : i < k
      · have HBE := Lib.hid hbel
        clear hbel
        obtain ⟨wo, rfl⟩ : ∃ wo, wo = wr := ⟨_, rfl⟩
        have d1 : decide ((i : Int) < (k : Int)) = true := decide_eq_true (by omega)
        go_wp2_with fail
        go_loopw [44] (fun jv wr => ∃ j : Nat, j ≤ k ∧ jv = .int .i64 j ∧ Hid (∀ j', j' < j → ∀ x ∈ trL M i j', ¬ okO M V W i j' x) ∧ Below w4.heap.size w4 wr) (fun jv _ => k - (intOf jv).toNat)
        case atStart => exact ⟨0, Nat.zero_le _, rfl, (show Hid _ from fun j' h => by omega), HBE.out⟩
        case round =>
          obtain ⟨j, hj, rfl, HNJ, hbel⟩ := hrel
          clear HBE
          by_cases hjk : j < k
          · have hz := hbel.size
            have t0 := (hbel.cell (p := ⟨b, o, none⟩) (by show b < _; omega)).trans s0
            have t1 := (hbel.cell (p := ⟨b, o + 1, none⟩) (by show b < _; omega)).trans s1
            have t2 := (hbel.cell (p := ⟨b0, o0 + i, none⟩) (by show b0 < _; omega)).trans (HB0.out i hik)
            have t3 := (hbel.cell (p := ⟨b0, o0 + j, none⟩) (by show b0 < _; omega)).trans (HB0.out j hjk)
            have t4 := (hbel.cell (p := ⟨b1, o1 + i, none⟩) (by show b1 < _; omega)).trans (HB1.out i hik)
            have t5 := (hbel.cell (p := ⟨b1, o1 + j, none⟩) (by show b1 < _; omega)).trans (HB1.out j hjk)
            obtain ⟨e0, e0'⟩ := HEB.out 0 i
            obtain ⟨e1, e1'⟩ := HEB.out 0 j
            obtain ⟨e2, e2'⟩ := HEB.out 1 i
            obtain ⟨e3, e3'⟩ := HEB.out 1 j
            have PT0 := Lib.hid (fun s t h => HPT.out 0 i j s t h)
            have PT1 := Lib.hid (fun s t h => HPT.out 1 i j s t h)
            have TB := Lib.hid (HTB.out i j)
            have TR := Lib.hid (HTR.out i j)
            have LA := Lib.hid (HLA.out i j)
            obtain ⟨up1, up2⟩ := HUP.out i j
            have OK := Lib.hid (HOK.out i j)
            have d2 : decide ((j : Int) < (k : Int)) = true := decide_eq_true (by omega)
            obtain ⟨tr, htr⟩ : ∃ tr, trL M i j = tr := ⟨_, rfl⟩
            obtain ⟨okf, hokf⟩ : ∃ okf, okO M V W i j = okf := ⟨_, rfl⟩
            have HTRQ := Lib.hid htr
            have HOKQ := Lib.hid hokf
            rw [htr] at TB TR
            rw [hokf] at OK
            have PT0' : Hid (∀ s t, (s, t) ∈ tr → _) := fun s t h => PT0.out s t (by rw [htr]; exact h)
            have PT1' : Hid (∀ s t, (s, t) ∈ tr → _) := fun s t h => PT1.out s t (by rw [htr]; exact h)
            clear htr hokf PT0 PT1
            generalize lastO M i j = la at *
            generalize upO M i j = up at *
            generalize downO M i j = dn at *
            generalize ent M 0 i = xa at *
            generalize ent M 0 j = xb at *
            generalize ent M 1 i = xc at *
            generalize ent M 1 j = xd at *
            obtain ⟨bu, bu'⟩ : -2000 ≤ up ∧ up ≤ 2000 := by omega
            obtain ⟨bd, bd'⟩ : -4000 ≤ dn ∧ dn ≤ 4000 := by omega
            have hup : xd - xb = up := up1.symm
            have hdn : xa - xb - xc + xd = dn := up2.symm
            clear up1 up2
            go_wp2_with fail
            go_quiet (fail)
            have hb5 := below_drewN hbel nq
            have z5 : wr.heap.size = (wr.drewN nq).heap.size := rfl
            clear hbel t0 t1 t2 t3 t4 t5
            generalize wr.drewN nq = w5 at *
            have ob := own2_lit2 w5 1 1 0 1
            have hbl : Below w4.heap.size w4 (w5.alloc (.cells #[.int .i64 1, .int .i64 1, .int .i64 0, .int .i64 1] 38)) := hb5.alloc hb5.size _
            have h3 : dn = 0 ∨ dn < 0 ∨ 0 < dn := by omega
            rcases h3 with hd | hd | hd
            case' inl =>
              have n0 : (dn != 0) = false := by simp [hd]
              have HL : Hid (tr = [(1, 1), (0, 1)]) := by show _ = _; rw [TR.out, if_neg (by simpa using hd)]; rfl
              have hl6 : tr.length = 2 := by rw [HL.out]; rfl
              have R6 : Hid (Rd2 (w5.alloc (.cells #[.int .i64 1, .int .i64 1, .int .i64 0, .int .i64 1] 38)) (w5.alloc (.cells #[.int .i64 1, .int .i64 1, .int .i64 0, .int .i64 1] 38)).heap.size (some ⟨w5.heap.size, 0, none⟩) 2 tr) := by rw [HL.out]; exact Rd2.of_own ob
              have H6 := Lib.hid hbl
              clear ob hbl hd TR LA HL hb5
              go_wp2_with fail
              generalize w5.alloc (.cells #[.int .i64 1, .int .i64 1, .int .i64 0, .int .i64 1] 38) = W6 at *
              generalize w5.heap.size = g6 at *
            case' inr.inl =>
              have n0 : (dn != 0) = true := by rw [bne_iff_ne]; omega
              have n1 : decide (dn < 0) = true := decide_eq_true hd
              have HL : Hid (tr = [(1, 1), (0, 1)] ++ [(-up, -dn)]) := by show _ = _; rw [TR.out, if_pos (by omega), LA.out, if_pos hd]
              have hl6 : tr.length = 3 := by rw [HL.out]; rfl
              clear hd TR LA
              go_upto_region 20 with fail
              generalize Value.slice (some ⟨w5.heap.size, 0, none⟩) 2 2 = vt at *
              have hz7 : w5.heap.size ≤ (w5.alloc (.cells #[.int .i64 1, .int .i64 1, .int .i64 0, .int .i64 1] 38)).heap.size := by simp
              generalize w5.alloc (.cells #[.int .i64 1, .int .i64 1, .int .i64 0, .int .i64 1] 38) = W5 at *
              go_wp2_with (at_builtin; refine push2 rfl _ _ rfl W5 w5.heap.size _ 2 [(1, 1), (0, 1)] (-up) (-dn) rfl rfl (by exact ob) hz7 (by omega) ?_)
              intro g6 cap6 W6 own6 hgr _ _
              have R6 : Hid (Rd2 W6 W6.heap.size (some ⟨g6, 0, none⟩) (2 + 1) tr) := by rw [HL.out]; exact Rd2.of_own own6
              have H6 : Hid (Below w4.heap.size w4 W6) := hbl.grown hgr hbl.size (fun y hy => by have := (ob.lt y hy).1; have := hb5.size; omega)
              clear ob hbl own6 hgr HL hb5
              go_wp2_with fail
            case' inr.inr =>
              have n0 : (dn != 0) = true := by rw [bne_iff_ne]; omega
              have n1 : decide (dn < 0) = false := decide_eq_false (by omega)
              have HL : Hid (tr = [(1, 1), (0, 1)] ++ [(up, dn)]) := by show _ = _; rw [TR.out, if_pos (by omega), LA.out, if_neg (by omega)]
              have hl6 : tr.length = 3 := by rw [HL.out]; rfl
              clear hd TR LA
              go_upto_region 20 with fail
              generalize Value.slice (some ⟨w5.heap.size, 0, none⟩) 2 2 = vt at *
              have hz7 : w5.heap.size ≤ (w5.alloc (.cells #[.int .i64 1, .int .i64 1, .int .i64 0, .int .i64 1] 38)).heap.size := by simp
              generalize w5.alloc (.cells #[.int .i64 1, .int .i64 1, .int .i64 0, .int .i64 1] 38) = W5 at *
              go_wp2_with (at_builtin; refine push2 rfl _ _ rfl W5 w5.heap.size _ 2 [(1, 1), (0, 1)] up dn rfl rfl (by exact ob) hz7 (by omega) ?_)
              intro g6 cap6 W6 own6 hgr _ _
              have R6 : Hid (Rd2 W6 W6.heap.size (some ⟨g6, 0, none⟩) (2 + 1) tr) := by rw [HL.out]; exact Rd2.of_own own6
              have H6 : Hid (Below w4.heap.size w4 W6) := hbl.grown hgr hbl.size (fun y hy => by have := (ob.lt y hy).1; have := hb5.size; omega)
              clear ob hbl own6 hgr HL hb5
              go_wp2_with fail
            all_goals
              have z6 := H6.out.size
              go_loopw [100] (fun tv wr => ∃ t : Nat, t ≤ tr.length ∧ tv = .int .i64 t ∧ Hid (∀ t', t' < t → ¬ okf (tr.getD t' (0, 0))) ∧ Below W6.heap.size W6 wr) (fun tv _ => tr.length - (intOf tv).toNat)
              case atStart => exact ⟨0, Nat.zero_le _, rfl, (show Hid _ from fun t' h => by omega), Below.refl _ W6⟩
              case round =>
                obtain ⟨t, ht, rfl, HNT, hbel⟩ := hrel
                by_cases htl : t < tr.length
                · obtain ⟨b7, o7, hba, hb7, q1, q2⟩ := R6.out.at_ (k := t) (by omega)
                  injection hba with hba
                  injection hba with y1 y2
                  subst y1; subst y2
                  have q1 := (hbel.cell (by exact hb7)).trans q1
                  have q2 := (hbel.cell (by exact hb7)).trans q2
                  rw [Nat.zero_add] at q1 q2
                  have hmem : tr.getD t (0, 0) ∈ tr := by rw [List.getD_eq_getElem?_getD, List.getElem?_eq_getElem htl]; exact List.getElem_mem htl
                  have HNX : Hid (¬ okf (tr.getD t (0, 0)) → ∀ t', t' < t + 1 → ¬ okf (tr.getD t' (0, 0))) := fun h t' h2 => by
                    by_cases e : t' = t
                    · subst e; exact h
                    · exact HNT.out t' (by omega)
                  clear HNT
                  generalize tr.getD t (0, 0) = x at *
                  obtain ⟨s, tt⟩ := x
                  dsimp only at q1 q2
                  obtain ⟨x1, x2, x3, x4⟩ := TB.out (s, tt) hmem
                  dsimp only at x1 x2 x3 x4
                  obtain ⟨A0, B0, C0, D, m1, m2, m3, m4, v1, v2, v3, v4, v5, v6, v7, v8⟩ := PT0'.out s tt hmem
                  obtain ⟨A1, B1, C1, D1, m5, m6, m7, m8, y1, y2, y3, y4, y5, y6, y7, y8⟩ := PT1'.out s tt hmem
                  obtain rfl : D = D1 := by rw [← m4, m8]
                  have OKx := Lib.hid (OK.out s tt)
                  rw [m1, m2, m3, m4, m5, m6, m7] at OKx
                  have hbx : Below wr.heap.size wr (wr.alloc (.cells #[.int .i64 s, .int .i64 tt] 38)) := (Below.refl _ wr).alloc (Nat.le_refl _) _
                  obtain ⟨p1, p2⟩ := boxO wr 38 s tt
                  have hbel2 := hbel.trans (hbx.mono hbel.size)
                  have g1 := ((H6.out.trans (hbel2.mono z6)).cell (p := ⟨g + 1, 0, none⟩) (by exact hsz)).trans u3
                  have g2 := ((H6.out.trans (hbel2.mono z6)).cell (p := ⟨g + 1, 1, none⟩) (by exact hsz)).trans u4
                  have hbF := (H6.out.trans (hbel2.mono z6))
                  clear hbx hbel m8 hmem
                  go_wp2_with fail
                  generalize wr.alloc (.cells #[.int .i64 s, .int .i64 tt] 38) = w7 at *
                  generalize wr.heap.size = g7 at *
                  go_quiet (fail)
                  have hb8 := below_drewN hbel2 nq
                  have hbf := below_drewN (ext_trans HB4.out hbF) nq
                  have g1' : (w7.drewN nq).cell? ⟨g + 1, 0, none⟩ = some (.int .i64 V) := g1
                  have g2' : (w7.drewN nq).cell? ⟨g + 1, 1, none⟩ = some (.int .i64 W) := g2
                  clear g1 g2 p1 p2 q1 q2 hbel2 hbF
                  generalize w7.drewN nq = w8 at *
                  by_cases c1 : 0 ≤ s
                  · by_cases c2 : s ≤ tt
                    · by_cases c3 : C0 ≤ D
                      · by_cases c4 : C1 ≤ D
                        · have f3 : decide (C0 ≤ D) = true := decide_eq_true c3
                          have f4 : decide (C1 ≤ D) = true := decide_eq_true c4
                          clear HNX OKx
                          go_wp2
                          go_ret
                          exact ⟨rfl, hbf⟩
                        · have HX := Lib.hid (HNX.out (fun h => c4 (OKx.out.1 h).2.2.2))
                          have f3 : decide (C0 ≤ D) = true := decide_eq_true c3
                          have f4 : decide (C1 ≤ D) = false := decide_eq_false c4
                          clear HNX OKx
                          go_wp2
                          go_roundw
                          case rel => exact ⟨t + 1, by omega, by go_num, HX, hb8⟩
                          case measure => simp [intOf]; omega
                      · have HX := Lib.hid (HNX.out (fun h => c3 (OKx.out.1 h).2.2.1))
                        have f3 : decide (C0 ≤ D) = false := decide_eq_false c3
                        clear HNX OKx
                        go_wp2
                        go_roundw
                        case rel => exact ⟨t + 1, by omega, by go_num, HX, hb8⟩
                        case measure => simp [intOf]; omega
                    · have HX := Lib.hid (HNX.out (fun h => c2 (OKx.out.1 h).2.1))
                      have f2 : decide (s ≤ tt) = false := decide_eq_false c2
                      clear HNX OKx
                      go_wp2
                      go_roundw
                      case rel => exact ⟨t + 1, by omega, by go_num, HX, hb8⟩
                      case measure => simp [intOf]; omega
                  · have HX := Lib.hid (HNX.out (fun h => c1 (OKx.out.1 h).1))
                    have f1 : decide (0 ≤ s) = false := decide_eq_false c1
                    clear HNX OKx
                    go_wp2
                    go_roundw
                    case rel => exact ⟨t + 1, by omega, by go_num, HX, hb8⟩
                    case measure => simp [intOf]; omega
                · obtain rfl : t = tr.length := by omega
                  have HX : Hid (∀ j', j' < j + 1 → ∀ x ∈ trL M i j', ¬ okO M V W i j' x) := fun j' h x hx => by
                    by_cases e : j' = j
                    · subst e
                      rw [HOKQ.out]
                      rw [HTRQ.out] at hx
                      obtain ⟨q, hq, rfl⟩ := List.getElem_of_mem hx
                      have := HNT.out q hq
                      rw [List.getD_eq_getElem?_getD, List.getElem?_eq_getElem hq] at this
                      exact this
                    · exact HNJ.out j' (by omega) x hx
                  have hbj := H6.out.trans (hbel.mono z6)
                  have hle : ¬ (tr.length < tr.length) := by omega
                  clear HNT HNJ
                  go_wp2
                  go_roundw
                  case rel => exact ⟨j + 1, by omega, by go_num, HX, hbj⟩
                  case measure => simp [intOf]; omega
          · obtain rfl : j = k := by omega
            have HX : Hid (∀ i', i' < i + 1 → ∀ j', j' < j → ∀ x ∈ trL M i' j', ¬ okO M V W i' j' x) := fun i' h => by
              by_cases e : i' = i
              · subst e; exact HNJ.out
              · exact HNI.out i' (by omega)
            clear HNI HNJ
            go_wp2
            go_roundw
            case rel => exact ⟨i + 1, by omega, by go_num, HX, hbel⟩
            case measure => simp [intOf]; omega
      · obtain rfl : i = k := by omega
        obtain ⟨i', j', x, h1, h2, h3, h4⟩ := HEX.out
        exact absurd h4 (HNI.out i' h1 j' h2 x h3)
  · have QS := Lib.hid (mE a n c M w2 (HT.out.below hb02) h0)
    have hne : (mxchk M != 0) = true := by simpa using h0
    clear h0 mE mS
    generalize mxchk M = r at *
    go_wp2_with fail
    refine QS.out.mono ?_
    rintro e w3 ⟨rfl, hb3⟩
    have hb03 := ext_trans hb02 hb3
    obtain ⟨u1, u2, u3, u4, hsz, hbx⟩ := boxes2 w3 24 0 0 0 0
    have hb04 := ext_trans hb03 hbx
    clear QS hb3 hb03 hbx hb02 HT HRR
    go_wp2
    go_ret
    exact ⟨by first | rfl | simp, hb04⟩
end Go.Proofs.Ytilgoinbajmamaa

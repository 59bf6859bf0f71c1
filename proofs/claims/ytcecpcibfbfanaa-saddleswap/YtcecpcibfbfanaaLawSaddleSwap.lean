/-
  plumekeep.SaddleSwap returns true, for every slice of slices of ints and two ints, if saddle.Bounds and saddle.Points keep their contracts; nothing that was there is written.
-/
import Derived.Test.YtcecpcibfbfanaaCSaddles
import Derived.Test.YtcecpcibfbfanaaCPairHas
import Derived.Test.YtcecpcibfbfanaaCWithin
import Derived.Deep.RegionLaw
import Derived.Deep.DeepCutAuto
import Derived.BigRegion
import Derived.RegionTactic
namespace Go.Proofs.Ytcecpcibfbfanaa
open Go.RowKit Fm
set_option linter.unusedVariables false

/-- Two pairs, each in a box of its own. -/
def TwoBox (w2 : World) (x y x' y' : Int) (p9 p10 : Value) (wx : World) : Prop := ∃ g1 g2, p9 = .pointer (some ⟨g1, 0, none⟩) ∧ p10 = .pointer (some ⟨g2, 0, none⟩) ∧ wx.cell? ⟨g1, 0, none⟩ = some (.int .i64 x) ∧ wx.cell? ⟨g1, 1, none⟩ = some (.int .i64 y) ∧ wx.cell? ⟨g2, 0, none⟩ = some (.int .i64 x') ∧ wx.cell? ⟨g2, 1, none⟩ = some (.int .i64 y') ∧ g1 < wx.heap.size ∧ g2 < wx.heap.size ∧ Below w2.heap.size w2 wx
theorem box_cells (w : World) (t : TypeId) (x y x' y' : Int) :
    ((w.alloc (.cells #[.int .i64 x, .int .i64 y] t)).alloc (.cells #[.int .i64 x', .int .i64 y'] t)).drew.cell? ⟨w.heap.size, 0, none⟩ = some (.int .i64 x) ∧
    ((w.alloc (.cells #[.int .i64 x, .int .i64 y] t)).alloc (.cells #[.int .i64 x', .int .i64 y'] t)).drew.cell? ⟨w.heap.size, 1, none⟩ = some (.int .i64 y) ∧
    ((w.alloc (.cells #[.int .i64 x, .int .i64 y] t)).alloc (.cells #[.int .i64 x', .int .i64 y'] t)).drew.cell? ⟨w.heap.size + 1, 0, none⟩ = some (.int .i64 x') ∧
    ((w.alloc (.cells #[.int .i64 x, .int .i64 y] t)).alloc (.cells #[.int .i64 x', .int .i64 y'] t)).drew.cell? ⟨w.heap.size + 1, 1, none⟩ = some (.int .i64 y') ∧
    w.heap.size + 1 < ((w.alloc (.cells #[.int .i64 x, .int .i64 y] t)).alloc (.cells #[.int .i64 x', .int .i64 y'] t)).drew.heap.size ∧
    Below w.heap.size w ((w.alloc (.cells #[.int .i64 x, .int .i64 y] t)).alloc (.cells #[.int .i64 x', .int .i64 y'] t)).drew := by
  have e1 : ∀ k v, (#[Value.int .i64 x, .int .i64 y] : Array Value)[k]? = some v → ((w.alloc (.cells #[.int .i64 x, .int .i64 y] t)).alloc (.cells #[.int .i64 x', .int .i64 y'] t)).cell? ⟨w.heap.size, k, none⟩ = some v := fun k v h => by
    rw [World.cell?_alloc_lt _ _ _ (by simp), World.cell?_alloc_new]; exact h
  have e2 : ∀ k v, (#[Value.int .i64 x', .int .i64 y'] : Array Value)[k]? = some v → ((w.alloc (.cells #[.int .i64 x, .int .i64 y] t)).alloc (.cells #[.int .i64 x', .int .i64 y'] t)).cell? ⟨w.heap.size + 1, k, none⟩ = some v := fun k v h => by
    have : w.heap.size + 1 = (w.alloc (.cells #[.int .i64 x, .int .i64 y] t)).heap.size := by simp
    rw [this, World.cell?_alloc_new]; exact h
  have hb : Below w.heap.size w ((w.alloc (.cells #[.int .i64 x, .int .i64 y] t)).alloc (.cells #[.int .i64 x', .int .i64 y'] t)) := ((Below.refl _ w).alloc (Nat.le_refl _) _).alloc (by simp) _
  exact ⟨e1 0 _ rfl, e1 1 _ rfl, e2 0 _ rfl, e2 1 _ rfl, by show _ < ((w.alloc _).alloc _).heap.size; simp, below_drewN hb 1⟩
theorem box_ab (w : World) (x y x' y' : Int) : TwoBox w x y x' y' (.pointer (some ⟨w.heap.size, 0, none⟩)) (.pointer (some ⟨w.heap.size + 1, 0, none⟩)) ((w.alloc (.cells #[.int .i64 x, .int .i64 y] 37)).alloc (.cells #[.int .i64 x', .int .i64 y'] 37)).drew := by
  obtain ⟨h1, h2, h3, h4, h5, h6⟩ := box_cells w 37 x y x' y'
  exact ⟨_, _, rfl, rfl, h1, h2, h3, h4, by omega, h5, h6⟩
theorem box_ba (w : World) (x y x' y' : Int) : TwoBox w x y x' y' (.pointer (some ⟨w.heap.size + 1, 0, none⟩)) (.pointer (some ⟨w.heap.size, 0, none⟩)) ((w.alloc (.cells #[.int .i64 x', .int .i64 y'] 37)).alloc (.cells #[.int .i64 x, .int .i64 y] 37)).drew := by
  obtain ⟨h1, h2, h3, h4, h5, h6⟩ := box_cells w 37 x' y' x y
  exact ⟨_, _, rfl, rfl, h3, h4, h1, h2, h5, by omega, h6⟩
theorem tabIn_rows {w : World} {a : Option Addr} {L : List (List Int)} (hr : RdR w w.heap.size a L.length L) (h24 : L.length * 24 ≤ 140737488355328) (hall : ∀ l ∈ L, (∀ x ∈ l, Ok64 x) ∧ l.length * 8 ≤ 140737488355328) : TabIn w a L.length L :=
  ⟨w.heap.size, Nat.le_refl _, hr, by omega, fun l hl => by have := (hall l hl).2; omega⟩
set_option maxHeartbeats 4000000 in
set_option maxRecDepth 100000 in
theorem saddleSwap_is (sB : SBounds) (sPE : SPointsE) (sP : SPoints) (v : Value) (L : List (List Int)) {w : World} (f : IsRows w v L) (i0 : Int) (hi0 : -9223372036854775808 ≤ i0) (hi1 : i0 ≤ 9223372036854775807) (k0 : Int) (hk0 : -9223372036854775808 ≤ k0) (hk1 : k0 ≤ 9223372036854775807) :
    Calls Try.prog 5 #[v, .int .i64 i0, .int .i64 k0] w fun e w' => e = .returned (.bool true) ∧ Below w.heap.size w w' := by
  obtain ⟨a, c, rfl, hr, hall, hlc, _, hcm, h24⟩ := f
  have W0 := Lib.hid (saddles_any sB sP w)
  have HT := Lib.hid (tabIn_rows hr h24 hall)
  have SPE : Hid SPointsE := sPE
  have SP : Hid SPoints := sP
  clear sB sPE sP hr hall h24
  go_enter Try.func5, Try.ntmps5
  go_wp2_with fail
  refine W0.out.mono ?_
  rintro e w1 ⟨rfl, hb1⟩
  clear W0
  by_cases h0 : pchk L = 0
  · have p := pchk_ok h0
    obtain ⟨k, hk⟩ : ∃ k, (L.getD 0 []).length = k := ⟨_, rfl⟩
    obtain ⟨r, hrl⟩ : ∃ r, L.length = r := ⟨_, rfl⟩
    rw [hk, hrl] at p
    have HP := Lib.hid p
    rw [hrl] at HT hlc ⊢
    have QP := Lib.hid (SP.out r k a r c L w1 (HT.out.below hb1) p)
    have hl36 := pt36 p
    have HMEM : Hid (∀ j, j < (ptA L k r).length → ∃ x y : Nat, x < r ∧ y < k ∧ isPt L x y = true ∧ (ptA L k r).getD j (0, 0) = ((x : Int), (y : Int))) := fun j hj => by
      have hm : (ptA L k r).getD j (0, 0) ∈ ptA L k r := by
        rw [List.getD_eq_getElem?_getD, List.getElem?_eq_getElem hj]; exact List.getElem_mem hj
      obtain ⟨x, y, h1, h2, h3, h4⟩ := (mem_ptA r).1 hm
      exact ⟨x, y, h1, h2, h3, h4⟩
    have HIN : Hid (∀ x y : Nat, x < r → y < k → isPt L x y = true → ((x : Int), (y : Int)) ∈ ptA L k r) := fun x y h1 h2 h3 => (mem_ptA r).2 ⟨x, y, h1, h2, h3, rfl⟩
    clear h0 p hk hrl
    generalize ptA L k r = pts at *
    obtain ⟨N, hN⟩ : ∃ N, pts.length = N := ⟨_, rfl⟩
    have HN := Lib.hid hN
    go_wp2_with fail
    refine QP.out.mono ?_
    rintro e w2 ⟨a2, c2, rfl, hc2, hm2, r2, hb2⟩
    rw [hN] at r2 hc2 hl36 ⊢
    have hb02 := ext_trans hb1 hb2
    have R2 := Lib.hid r2
    clear QP r2 hb1 hb2 hN
    by_cases hz : N = 0
    · subst hz
      go_wp2
      go_ret
      exact ⟨rfl, hb02⟩
    · have hnb : ((N : Int) == 0) = false := by rw [beq_eq_false_iff_ne]; omega
      obtain ⟨i, hi⟩ : ∃ i : Nat, i0 % (N : Int) = (i : Int) := ⟨(i0 % (N : Int)).toNat, by have := Int.emod_nonneg i0 (show (N : Int) ≠ 0 by omega); omega⟩
      have hiN : i < N := by have := Int.emod_lt_of_pos i0 (show (0 : Int) < N by omega); omega
      obtain ⟨j, hj⟩ : ∃ j : Nat, k0 % (N : Int) = (j : Int) := ⟨(k0 % (N : Int)).toNat, by have := Int.emod_nonneg k0 (show (N : Int) ≠ 0 by omega); omega⟩
      have hjN : j < N := by have := Int.emod_lt_of_pos k0 (show (0 : Int) < N by omega); omega
      have WI : Hid (∀ W, Calls Try.prog 18 #[.int .i64 i0, .int .i64 N] W fun e w' => e = .returned (.int .i64 i) ∧ W = w') := fun W => by
        rw [← hi]; exact within_any i0 N W hi0 hi1 (by omega) (by omega)
      have WJ : Hid (∀ W, Calls Try.prog 18 #[.int .i64 k0, .int .i64 N] W fun e w' => e = .returned (.int .i64 j) ∧ W = w') := fun W => by
        rw [← hj]; exact within_any k0 N W hk0 hk1 (by omega) (by omega)
      obtain ⟨x, y, hx, hy, hp, hxy⟩ := HMEM.out i (by rw [HN.out]; exact hiN)
      obtain ⟨x', y', hx', hy', hp', hxy'⟩ := HMEM.out j (by rw [HN.out]; exact hjN)
      obtain ⟨b, o, rfl, hbb, hc1, hc2⟩ := R2.out.at_ hiN
      obtain ⟨b', o', hba, _, hd1, hd2⟩ := R2.out.at_ hjN
      injection hba with hba
      injection hba with e1 e2
      subst e1; subst e2
      rw [hxy] at hc1 hc2
      rw [hxy'] at hd1 hd2
      dsimp only at hc1 hc2 hd1 hd2
      have HM1 := Lib.hid (HIN.out x y' hx hy' (pt_swap HP.out hx hy hx' hy' hp hp'))
      have HM2 := Lib.hid (HIN.out x' y hx' hy (pt_swap HP.out hx' hy' hx hy hp' hp))
      clear hi hj hxy hxy' hp hp' HMEM HIN
      go_upto_region 6 with fail
      go_cut [9, 10] (fun p9 p10 wx => TwoBox w2 x y x' y' p9 p10 wx)
      case first =>
        clear HM1 HM2 HP HT HN hb02 R2 hnb SPE SP hx hy hx' hy' hm2 hl36 hi0 hi1 hk0 hk1 hcm hlc
        go_region_law (first
          | (go_simp; go_at_call 18; with_reducible refine (WI.out _).mono ?_; rintro e w7 ⟨rfl, rfl⟩)
          | (go_simp; go_at_call 18; with_reducible refine (WJ.out _).mono ?_; rintro e w7 ⟨rfl, rfl⟩))
        all_goals
          go_wp2_with fail
          go_meet
          first | exact box_ab w2 _ _ _ _ | exact box_ba w2 _ _ _ _
      case rest =>
        obtain ⟨g1, g2, rfl, rfl, u1, u2, u3, u4, hg1, hg2, hb3⟩ := hcut
        have R3 := Lib.hid (rd2_ext R2.out hb3)
        have hb03 := ext_trans hb02 hb3
        have H4 := Lib.hid (And.intro u3 u2)
        clear hc1 hc2 hd1 hd2 hb3 R2 WI WJ HN
        have Q1 := Lib.hid (has2_any pts (some ⟨b, o, none⟩) N c2 (x : Int) (y' : Int) wc R3.out (by omega))
        rw [decide_eq_true HM1.out] at Q1
        go_wp2_with fail
        refine Q1.out.mono ?_
        rintro e w5 ⟨rfl, hb5⟩
        have u3' := (hb5.cell (p := ⟨g2, 0, none⟩) hg2).trans H4.out.1
        have u2' := (hb5.cell (p := ⟨g1, 1, none⟩) hg1).trans H4.out.2
        have Q2 := Lib.hid (has2_any pts (some ⟨b, o, none⟩) N c2 (x' : Int) (y : Int) w5 (rd2_ext R3.out hb5) (by omega))
        rw [decide_eq_true HM2.out] at Q2
        have hb05 := ext_trans hb03 hb5
        clear hb5 Q1 H4
        go_wp2_with fail
        refine Q2.out.mono ?_
        rintro e w6 ⟨rfl, hb6⟩
        have hb06 := ext_trans hb05 hb6
        clear Q2 hb6 R3
        go_wp2
        go_ret
        exact ⟨rfl, hb06⟩
  · have QP := Lib.hid (SPE.out a L.length c L w1 (HT.out.below hb1) h0)
    have hne : (pchk L != 0) = true := by simpa using h0
    clear h0
    generalize pchk L = r at *
    go_wp2_with fail
    refine QP.out.mono ?_
    rintro e w2 ⟨a2, c2, rfl, hb2⟩
    have hb02 := ext_trans hb1 hb2
    clear QP
    go_wp2
    go_ret
    exact ⟨rfl, hb02⟩
end Go.Proofs.Ytcecpcibfbfanaa

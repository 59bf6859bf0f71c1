/-
  plumekeep.SaddleBounds returns true, for every slice of slices of ints, if saddle.Bounds and saddle.Points keep their contracts; nothing that was there is written.
-/
import Derived.Test.YtcecpcibfbfanaaCSaddles
import Derived.Test.YtcecpcibfbfanaaSqPay
import Derived.BigQuiet
import Derived.Deep.QuietTactic
namespace Go.Proofs.Ytcecpcibfbfanaa
open Go.RowKit Fm
set_option linter.unusedVariables false

theorem tabIn_rowsB {w : World} {a : Option Addr} {L : List (List Int)} (hr : RdR w w.heap.size a L.length L) (h24 : L.length * 24 ≤ 140737488355328) (hall : ∀ l ∈ L, (∀ x ∈ l, Ok64 x) ∧ l.length * 8 ≤ 140737488355328) : TabIn w a L.length L :=
  ⟨w.heap.size, Nat.le_refl _, hr, by omega, fun l hl => by have := (hall l hl).2; omega⟩
theorem box2 (w : World) (t : TypeId) (x y : Int) :
    (w.alloc (.cells #[.int .i64 x, .int .i64 y] t)).cell? ⟨w.heap.size, 0, none⟩ = some (.int .i64 x) ∧ (w.alloc (.cells #[.int .i64 x, .int .i64 y] t)).cell? ⟨w.heap.size, 1, none⟩ = some (.int .i64 y) := by
  constructor <;> simp [World.cell?_alloc_new]
set_option maxHeartbeats 4000000 in
set_option maxRecDepth 100000 in
theorem saddleBounds_is (sBE : SBoundsE) (sB : SBounds) (sPE : SPointsE) (sP : SPoints) (v : Value) (L : List (List Int)) {w : World} (f : IsRows w v L) :
    Calls Try.prog 4 #[v] w fun e w' => e = .returned (.bool true) ∧ Below w.heap.size w w' := by
  obtain ⟨a, c, rfl, hr, hall, hlc, _, hcm, h24⟩ := f
  have W0 := Lib.hid (saddles_any sB sP w)
  have HT := Lib.hid (tabIn_rowsB hr h24 hall)
  have SBE : Hid SBoundsE := sBE
  have SB : Hid SBounds := sB
  have SPE : Hid SPointsE := sPE
  have SP : Hid SPoints := sP
  have HRR := Lib.hid hr
  clear sBE sB sPE sP hr hall h24
  go_enter Try.func4, Try.ntmps4
  go_wp2_with fail
  refine W0.out.mono ?_
  rintro e w1 ⟨rfl, hb1⟩
  clear W0
  by_cases h0 : pchk L = 0
  · have p := pchk_ok h0
    obtain ⟨k, hk⟩ : ∃ k, (L.getD 0 []).length = k := ⟨_, rfl⟩
    obtain ⟨r, hrl⟩ : ∃ r, L.length = r := ⟨_, rfl⟩
    rw [hk, hrl] at p
    have HP := Lib.hid p
    rw [hrl] at HT HRR hlc ⊢
    have r6 := p.r6
    have k6 := p.k6
    obtain ⟨_, b, o, rfl, hbb, hsq⟩ := rdr_sqP HRR.out p
    have HSQ := Lib.hid hsq
    have QB := Lib.hid (SB.out r k (some ⟨b, o, none⟩) r c L w1 (HT.out.below hb1) p)
    have QP : Hid (∀ W, Below w.heap.size w W → Calls Try.prog 8 #[.slice (some ⟨b, o, none⟩) r c] W (PairsOut (ptA L k r) W)) := fun W hW => SP.out r k (some ⟨b, o, none⟩) r c L W (HT.out.below hW) p
    have hl36 := pt36 p
    have HMEM : Hid (∀ j, j < (ptA L k r).length → ∃ x y : Nat, x < r ∧ y < k ∧ ent L x y = loB L ∧ (ptA L k r).getD j (0, 0) = ((x : Int), (y : Int))) := fun j hj => by
      have hm : (ptA L k r).getD j (0, 0) ∈ ptA L k r := by
        rw [List.getD_eq_getElem?_getD, List.getElem?_eq_getElem hj]; exact List.getElem_mem hj
      obtain ⟨x, y, h1, h2, h3, h4⟩ := (mem_ptA r).1 hm
      exact ⟨x, y, h1, h2, (pt_val p h1 h2 h3).1, h4⟩
    have HSOME : Hid (loB L = hiB k L ↔ 0 < (ptA L k r).length) := pt_some p
    have hle := lo_hi p
    clear h0 p hk hrl hsq
    generalize ptA L k r = pts at *
    generalize loB L = lo at *
    generalize hiB k L = hi at *
    obtain ⟨N, hN⟩ : ∃ N, pts.length = N := ⟨_, rfl⟩
    have HN := Lib.hid hN
    go_wp2_with fail
    refine QB.out.mono ?_
    rintro e w2 ⟨rfl, hb2⟩
    have hb02 := ext_trans hb1 hb2
    clear QB hb1 hb2
    go_wp2_with fail
    refine (QP.out w2 hb02).mono ?_
    rintro e w3 ⟨a3, c3, rfl, hc3, hm3, r3, hb3⟩
    rw [hN] at r3 hc3 hl36 ⊢
    have hb03 := ext_trans hb02 hb3
    have R3 := Lib.hid r3
    clear QP r3 hb3 hb02 hN
    rw [HN.out] at HSOME HMEM
    go_wp2_with fail
    go_loopw [47] (fun jv wr => ∃ j : Nat, j ≤ N ∧ jv = .int .i64 j ∧ Below w3.heap.size w3 wr) (fun jv _ => N - (intOf jv).toNat)
    case atStart => exact ⟨0, Nat.zero_le _, rfl, Below.refl _ w3⟩
    case round =>
      obtain ⟨j, hj, rfl, hbel⟩ := hrel
      by_cases hjN : j < N
      · obtain ⟨x, y, hx, hy, hent, hxy⟩ := HMEM.out j hjN
        obtain ⟨b3, o3, rfl, hb3, hc1, hc2⟩ := R3.out.at_ hjN
        rw [hxy] at hc1 hc2
        dsimp only at hc1 hc2
        have q1 : wr.cell? ⟨b3, o3 + j * 2, none⟩ = some (.int .i64 (x : Int)) := (hbel.cell (by exact hb3)).trans hc1
        have q2 : wr.cell? ⟨b3, o3 + j * 2 + 1, none⟩ = some (.int .i64 (y : Int)) := (hbel.cell (by exact hb3)).trans hc2
        obtain ⟨b', o', c', hb', hcell, _, _, hcc⟩ := HSQ.out x hx
        have hbw := ext_trans hb03 hbel
        have hbx : Below wr.heap.size wr (wr.alloc (.cells #[.int .i64 x, .int .i64 y] 37)) := (Below.refl _ wr).alloc (Nat.le_refl _) _
        have hbw2 := ext_trans hbw hbx
        have u1 := (hbw2.cell (p := ⟨b, o + x, none⟩) (by exact hbb)).trans hcell
        have u2 := (hbw2.cell (p := ⟨b', o' + y, none⟩) (by exact hb')).trans (hcc y hy)
        rw [hent] at u2
        obtain ⟨u3, u4⟩ := box2 wr 37 (x : Int) (y : Int)
        have hbel2 := hbel.trans (hbx.mono hbel.size)
        have d1 : decide ((x : Int) < 0) = false := decide_eq_false (by omega)
        have d2 : decide ((r : Int) ≤ (x : Int)) = false := decide_eq_false (by omega)
        have d2' : decide (r ≤ x) = false := decide_eq_false (by omega)
        have d3 : decide ((y : Int) < 0) = false := decide_eq_false (by omega)
        have d4 : decide ((k : Int) ≤ (y : Int)) = false := decide_eq_false (by omega)
        have d4' : decide (k ≤ y) = false := decide_eq_false (by omega)
        have d5 : (lo != lo) = false := by simp
        have v1 : (x : Int) < (r : Int) := by omega
        have v2 : (y : Int) < (k : Int) := by omega
        clear hc1 hc2 hcell hcc hxy hent hbx hbw hbw2 hbel
        go_wp2_with fail
        generalize wr.alloc (.cells #[.int .i64 x, .int .i64 y] 37) = w5 at *
        generalize wr.heap.size = g at *
        go_quiet (fail)
        go_wp2
        go_roundw
        case rel => exact ⟨j + 1, by omega, by go_num, below_drewN hbel2 _⟩
        case measure => simp [intOf]; omega
      · obtain rfl : j = N := by omega
        have hbf := ext_trans hb03 hbel
        have HS := HSOME.out
        by_cases hN0 : 0 < j
        · have he : lo = hi := HS.2 hN0
          subst he
          have d1 : ((j : Int) == 0) = false := by rw [beq_eq_false_iff_ne]; omega
          clear HS HSOME
          go_wp2
          go_ret
          exact ⟨by first | rfl | simp, hbf⟩
        · have hne : (lo == hi) = false := by rw [beq_eq_false_iff_ne]; exact fun q => hN0 (HS.1 q)
          obtain rfl : j = 0 := by omega
          clear HS HSOME
          go_wp2
          go_ret
          exact ⟨by first | rfl | simp, hbf⟩
  · have QB := Lib.hid (SBE.out a L.length c L w1 (HT.out.below hb1) h0)
    have QP : Hid (∀ W, Below w.heap.size w W → Calls Try.prog 8 #[.slice a L.length c] W (ErrOut (pchk L) W)) := fun W hW => SPE.out a L.length c L W (HT.out.below hW) h0
    have hne : (pchk L != 0) = true := by simpa using h0
    clear h0
    generalize pchk L = r at *
    go_wp2_with fail
    refine QB.out.mono ?_
    rintro e w2 ⟨rfl, hb2⟩
    have hb02 := ext_trans hb1 hb2
    clear QB hb1 hb2
    go_wp2_with fail
    refine (QP.out w2 hb02).mono ?_
    rintro e w3 ⟨a2, c2, rfl, hb3⟩
    have hb03 := ext_trans hb02 hb3
    clear QP
    go_wp2
    go_ret
    exact ⟨by first | rfl | simp, hb03⟩
end Go.Proofs.Ytcecpcibfbfanaa

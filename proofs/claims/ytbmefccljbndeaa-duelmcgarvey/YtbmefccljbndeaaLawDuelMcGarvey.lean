/-
  plumekeep.DuelMcGarvey returns true, for every int and every slice of slices of ints, if duel.Votes and tally.Duels keep their contracts; nothing that was there is written.
-/
import Derived.Test.YtbmefccljbndeaaDuelP
import Derived.Test.YtbmefccljbndeaaLits
import Derived.Test.YtbmefccljbndeaaCHas
import Derived.Test.YtbmefccljbndeaaCWithin
import Derived.Test.YtbmefccljbndeaaCGood
import Derived.Test.YtbmefccljbndeaaCEqual
import Derived.Test.YtbmefccljbndeaaPushS
import Derived.Test.YtbmefccljbndeaaSquare
import Derived.Test.YtbmefccljbndeaaFnMath
namespace Go.Proofs.Ytbmefccljbndeaa
open Go.RowKit Fm
set_option linter.unusedVariables false

/-- The contract of tally.Duels at votes. -/
def TDuels : Prop := ∀ (n : Nat) (a : Option Addr) (m c : Nat) (V : List (List Int)) (w : World) (B : Nat), B ≤ w.heap.size → RdR w B a m V → m ≤ 17592186044416 → vchk n V = 0 →
    Calls Try.prog 31 #[.int .i64 n, .slice a m c] w (MatOut (duelsM n V) w)

theorem within_q (n m : Int) (w : World) (hn0 : -9223372036854775808 ≤ n) (hn1 : n ≤ 9223372036854775807) (hm : 1 ≤ m) (hm2 : m ≤ 1000000) :
    Calls Try.prog 27 #[.int .i64 n, .int .i64 m] w fun e w' => e = .returned (.int .i64 (n % m)) ∧ w' = w :=
  (within_any n m w hn0 hn1 hm hm2).mono fun e w' ⟨h1, h2⟩ => ⟨h1, h2.symm⟩
theorem mcg_len2 (n : Nat) (L : List (List Int)) : (mcg n L).length = 2 * L.length := by
  unfold mcg
  induction L with
  | nil => rfl
  | cons b L ih => simp [List.flatMap_cons] at ih ⊢; omega
theorem mcg_rows2 {n : Nat} {L : List (List Int)} (h6 : n ≤ 6) (hL : ∀ b ∈ L, okPair n b) {l : List Int} (h : l ∈ mcg n L) : l.length ≤ 1000 := by
  unfold mcg at h
  rw [List.mem_flatMap] at h
  obtain ⟨b, hb, hl⟩ := h
  have h1 := (hL b hb).1
  have h2 : (others n b).length ≤ n := by
    unfold others; exact Nat.le_trans (List.length_filter_le _ _) (by rw [sides_len]; exact Nat.le_refl _)
  simp at hl
  rcases hl with rfl | rfl <;> simp <;> omega
/-- The pairs met so far: in the box, right, no two alike. -/
structure Met (W : World) (n g : Nat) (w : World) (a : Option Addr) (m c : Nat) (vs : List Value) (Bt : List (List Int)) : Prop where
  box : w.ownsRow W.heap.size 22 1 (.slice (some ⟨g, 0, none⟩) 1 1) 1 [.slice a m c]
  row : w.ownsRow W.heap.size 23 1 (.slice a m c) m vs
  els : Elems w W.heap.size 3 vs Bt
  len : Bt.length = m
  ok : ∀ b ∈ Bt, okPair n b
  fresh : Fresh Bt
  bel : Below W.heap.size W w
section
variable {W w w' : World} {n g : Nat} {a : Option Addr} {m c : Nat} {vs : List Value} {Bt : List (List Int)}
theorem Met.ext (h : Met W n g w a m c vs Bt) (hb : Below w.heap.size w w') : Met W n g w' a m c vs Bt :=
  ⟨own_below h.box hb (Nat.le_refl _), own_below h.row hb (Nat.le_refl _), h.els.below hb (Nat.le_refl _), h.len, h.ok, h.fresh, ext_trans h.bel hb⟩
theorem Met.rd (h : Met W n g w a m c vs Bt) : RdR w w.heap.size a m Bt := RdR.of_own h.row h.len h.els
theorem Met.cell (h : Met W n g w a m c vs Bt) : w.cell? ⟨g, 0, none⟩ = some (.slice a m c) := by
  have := h.box.cellAt 0 (by omega)
  simpa using this
theorem Met.lt (h : Met W n g w a m c vs Bt) : g < w.heap.size := (h.box.lt g rfl).2
theorem Met.push (h : Met W n g w a m c vs Bt) (gr : w.grownBy w' (Value.slice a m c).ownBlock) {g' cap : Nat} {u : Value} (row' : w'.ownsRow W.heap.size 23 1 (.slice (some ⟨g', 0, none⟩) (m + 1) cap) (m + 1) (vs ++ [u]))
    {x y : Int} (ou : w.ownsRow W.heap.size 3 1 u 2 (I [x, y])) (hok : okPair n [x, y]) (h1 : [x, y] ∉ Bt) (h2 : [y, x] ∉ Bt) :
    Met W n g (w'.setCell ⟨g, 0, none⟩ (.slice (some ⟨g', 0, none⟩) (m + 1) cap)) (some ⟨g', 0, none⟩) (m + 1) cap (vs ++ [u]) (Bt ++ [[x, y]]) := by
  have hkind : ∀ z, Value.ownBlock (.slice a m c) = some z → z < W.heap.size ∨ ∃ c t, w.heap[z]? = some (.cells c t (0, 0)) ∧ t ≠ 3 := fun z hz => by
    obtain ⟨c, hc⟩ := own_kind h.row hz
    exact .inr ⟨c, _, hc, by decide⟩
  have e1 : Elems w' W.heap.size 3 (vs ++ [u]) (Bt ++ [[x, y]]) := (h.els.kept gr hkind).snoc (l := [x, y]) (ou.kept gr (own_far h.row ou (by decide)))
  have b1 := h.box.kept gr (own_far h.row h.box (by decide))
  obtain ⟨b2, gr2⟩ := b1.stored 0 (.slice (some ⟨g', 0, none⟩) (m + 1) cap)
  have hkind2 : ∀ z, some g = some z → z < W.heap.size ∨ ∃ c t, w'.heap[z]? = some (.cells c t (0, 0)) ∧ t ≠ 3 := fun z hz => by
    obtain ⟨c, hc⟩ := own_kind b1 (show Value.ownBlock _ = some z from hz)
    exact .inr ⟨c, _, hc, by decide⟩
  refine ⟨b2, row'.kept gr2 (own_far b1 row' (by decide)), e1.kept gr2 hkind2, by simp [h.len], fun b hb => ?_, fresh_snoc h.fresh h1 h2, ?_⟩
  · rcases List.mem_append.1 hb with hb | hb
    · exact h.ok b hb
    · simp at hb; subst hb; exact hok
  · refine (h.bel.grown gr h.bel.size (fun z hz => (h.row.lt z hz).1)).grown gr2 (Nat.le_trans h.bel.size gr.size) (fun z hz => ?_)
    injection hz with hz; subst hz
    exact (h.box.lt g rfl).1
end

def T4 : List (List Int) := [[2, 0]]
theorem t4_ok : bchk 3 T4 = 0 := by decide
theorem t4_mcg : mcg 3 T4 = [[2, 0, 1], [1, 2, 0]] := by decide
theorem tabIn_smallR {w : World} {a : Option Addr} {n : Nat} {M : List (List Int)} (h : RdR w w.heap.size a n M) (hn : n ≤ 1000) (hl : ∀ l ∈ M, l.length ≤ 1000) : TabIn w a n M :=
  ⟨w.heap.size, Nat.le_refl _, h, by omega, fun l hl' => by have := hl l hl'; omega⟩

set_option maxHeartbeats 4000000 in
set_option maxRecDepth 100000 in
theorem duelMcGarvey_is (dV : DVotes) (tD : TDuels) (n0 : Int) (hn0 : -9223372036854775808 ≤ n0) (hn1 : n0 ≤ 9223372036854775807) (v : Value) (L : List (List Int)) {w : World} (f : IsRows w v L) :
    Calls Try.prog 8 #[.int .i64 n0, v] w fun e w' => e = .returned (.bool true) ∧ Below w.heap.size w w' := by
  obtain ⟨a, c, rfl, hr, hall, hlc, _, hcm, h24⟩ := f
  have HR := Lib.hid hr
  have H64 : Hid (∀ l ∈ L, ∀ x ∈ l, Ok64 x) := fun l hl => (hall l hl).1
  have H8 : Hid (∀ l ∈ L, l.length ≤ 17592186044416) := fun l hl => by have := (hall l hl).2; omega
  have DV : Hid DVotes := dV
  have TD : Hid TDuels := tD
  have hm : L.length ≤ 17592186044416 := by omega
  obtain ⟨m, hmL⟩ : ∃ m, L.length = m := ⟨_, rfl⟩
  have HML := Lib.hid hmL
  rw [hmL] at HR hm ⊢
  clear hr hall dV tD h24 hlc hmL
  have L1 := Lib.hid (lit1 w 3 23 [2, 0] #[.int .i64 2, .int .i64 0] rfl (by decide))
  go_enter Try.func8, Try.ntmps8
  go_wp2_with fail
  obtain ⟨r1, b1⟩ := L1.out
  have q1 := DV.out 3 (some ⟨w.heap.size + 1, 0, none⟩) 1 1 T4 _ (tabIn_smallR r1 (by decide) (by decide)) t4_ok
  refine q1.mono ?_
  rintro e w1 ⟨a1, c1, rfl, _, _, rt, hb1⟩
  rw [t4_mcg] at rt ⊢
  obtain ⟨bb, oo, rfl, hbb, hrows⟩ := rt.2 (by decide)
  obtain ⟨ax, cx, x1, x2, x3, x4, x5⟩ := hrows 0 (by decide)
  obtain ⟨ay, cy, y1, y2, y3, y4, y5⟩ := hrows 1 (by decide)
  have x1' : w1.cell? ⟨bb, oo, none⟩ = some (.slice ax 3 cx) := x1
  have y1' : w1.cell? ⟨bb, oo + 1, none⟩ = some (.slice ay 3 cy) := y1
  have RX : Hid (Rd w1 w1.heap.size ax 3 [2, 0, 1]) := x5
  have RY : Hid (Rd w1 w1.heap.size ay 3 [1, 2, 0]) := y5
  have HY := Lib.hid y1'
  have HB := Lib.hid (ext_trans b1 hb1)
  clear q1 r1 b1 hb1 L1 rt hrows x1 x2 x3 x4 x5 y1 y2 y3 y4 y5 y1'
  have L3 := Lib.hid (Rd.lit w1 3 [2, 0, 1] #[.int .i64 2, .int .i64 0, .int .i64 1] rfl)
  have b4 : Below w1.heap.size w1 (w1.alloc (.cells #[.int .i64 2, .int .i64 0, .int .i64 1] 3)) := (Below.refl _ _).alloc (by omega) _
  go_wp2_with fail
  have q3 := equal_ext [2, 0, 1] [2, 0, 1] ax (some ⟨w1.heap.size, 0, none⟩) 3 cx 3 3 (w1.alloc (.cells #[.int .i64 2, .int .i64 0, .int .i64 1] 3)) (rd_ext RX.out b4) (L3.out.more (by simp)) (by omega) (by omega)
  refine q3.mono ?_
  rintro e w2 ⟨rfl, hb2⟩
  have hb12 := ext_trans b4 hb2
  have y2' := (hb12.cell (show (⟨bb, oo + 1, none⟩ : Addr).block < _ from hbb)).trans HY.out
  have RY2 := Lib.hid (rd_ext RY.out hb12)
  have HB2 := Lib.hid (ext_trans HB.out hb12)
  clear q3 b4 hb2 hb12 L3 x1' RX RY HY HB
  have L4 := Lib.hid (Rd.lit w2 3 [1, 2, 0] #[.int .i64 1, .int .i64 2, .int .i64 0] rfl)
  have b5 : Below w2.heap.size w2 (w2.alloc (.cells #[.int .i64 1, .int .i64 2, .int .i64 0] 3)) := (Below.refl _ _).alloc (by omega) _
  go_wp2_with fail
  have q4 := equal_ext [1, 2, 0] [1, 2, 0] ay (some ⟨w2.heap.size, 0, none⟩) 3 cy 3 3 (w2.alloc (.cells #[.int .i64 1, .int .i64 2, .int .i64 0] 3)) (rd_ext RY2.out b5) (L4.out.more (by simp)) (by omega) (by omega)
  refine q4.mono ?_
  rintro e w3 ⟨rfl, hb3⟩
  have HB3 := Lib.hid (ext_trans HB2.out (ext_trans b5 hb3))
  clear q4 b5 hb3 L4 y2' RY2 HB2 hbb
  go_wp2_with fail
  refine (within_any n0 5 w3 hn0 hn1 (by omega) (by omega)).mono ?_
  rintro e w' ⟨rfl, rfl⟩
  obtain ⟨k5, hk5⟩ : ∃ k5 : Nat, n0 % 5 = k5 := ⟨(n0 % 5).toNat, by omega⟩
  rw [hk5]
  have hk5b : k5 < 5 := by omega
  obtain ⟨n, hn⟩ : ∃ n : Nat, n = 2 + k5 := ⟨_, rfl⟩
  have hni : (2 : Int) + (k5 : Int) = (n : Int) := by omega
  have hn2 : 2 ≤ n := by omega
  have hn6 : n ≤ 6 := by omega
  clear hk5 hn hn0 hn1 hk5b
  have HM0 : Hid (Met w3 n w3.heap.size (w3.alloc (.cells #[.slice none 0 0] 22)) none 0 0 [] []) :=
    ⟨own_box w3 _ _, World.ownsRow_nil _ _ _ _, Elems.nil_, rfl, fun b hb => by simp at hb, List.Pairwise.nil, (Below.refl _ w3).alloc (Nat.le_refl _) _⟩
  go_wp2_with fail
  clear hni
  generalize w3.alloc (.cells #[.slice none 0 0] 22) = w4 at *
  obtain ⟨g, hg⟩ : ∃ g, g = w3.heap.size := ⟨_, rfl⟩
  rw [← hg] at HM0 ⊢
  clear hg
  go_loopw [55] (fun i wr => ∃ (t : Nat) (ab : Option Addr) (mb cb : Nat) (vs : List Value) (Bt : List (List Int)), t ≤ m ∧ i = .int .i64 t ∧ Met w3 n g wr ab mb cb vs Bt) (fun i _ => m - (intOf i).toNat)
  case atStart => exact ⟨0, none, 0, 0, [], [], Nat.zero_le _, rfl, HM0.out⟩
  case round =>
    obtain ⟨t, ab, mb, cb, vs, Bt, ht, rfl, met⟩ := hrel
    have HMT := Lib.hid met
    have hmb : mb ≤ 15 := by rw [← met.len]; exact fresh_len hn6 met.ok met.fresh
    clear met HM0
    by_cases htm : t < m
    · obtain ⟨b, o, a', c', rfl, hb, hcell, hlc', _, _, hrd⟩ := HR.out.at_ htm
      have htl : t < L.length := by rw [HML.out]; exact htm
      have hbw : Below w.heap.size w wr := ext_trans HB3.out HMT.out.bel
      have hct : wr.cell? ⟨b, o + t, none⟩ = some (.slice a' (L.getD t []).length c') := (hbw.cell (by show b < _; omega)).trans hcell
      have hrd2 := hrd.below hbw (Nat.le_refl _)
      have hmem : L.getD t [] ∈ L := by rw [List.getD_eq_getElem?_getD, List.getElem?_eq_getElem htl]; exact List.getElem_mem htl
      have h64 := H64.out _ hmem
      have h8 := H8.out _ hmem
      clear hcell hrd hmem htl hbw
      generalize L.getD t [] = p at *
      by_cases hl2 : p.length < 2
      · have hl2i : ((p.length : Nat) : Int) < 2 := by omega
        go_wp2
        go_roundw
        case rel => exact ⟨t + 1, ab, mb, cb, vs, Bt, by omega, by go_num, HMT.out⟩
        case measure => simp [intOf]; omega
      · have hl2i : ¬ ((p.length : Nat) : Int) < 2 := by omega
        obtain ⟨b2, o2, rfl, hbb2, hcc⟩ := hrd2.2 (by omega)
        have c0 := hcc 0 (by omega)
        have c1' := hcc 1 (by omega)
        rw [Nat.add_zero] at c0
        have k0 := h64 _ (getD_mem p 0 (by omega))
        have k1 := h64 _ (getD_mem p 1 (by omega))
        have bl1 : (1 : Int) < ((p.length : Nat) : Int) := by omega
        have bl0 : (0 : Int) < ((p.length : Nat) : Int) := by omega
        obtain ⟨x, hx⟩ : ∃ x : Nat, p.getD 0 0 % (n : Int) = x := ⟨(p.getD 0 0 % (n : Int)).toNat, by have := Int.emod_nonneg (p.getD 0 0) (show (n : Int) ≠ 0 by omega); omega⟩
        obtain ⟨y, hy⟩ : ∃ y : Nat, p.getD 1 0 % (n : Int) = y := ⟨(p.getD 1 0 % (n : Int)).toNat, by have := Int.emod_nonneg (p.getD 1 0) (show (n : Int) ≠ 0 by omega); omega⟩
        have hxn : x < n := by have := Int.emod_lt_of_pos (p.getD 0 0) (show (0 : Int) < n by omega); omega
        have hyn : y < n := by have := Int.emod_lt_of_pos (p.getD 1 0) (show (0 : Int) < n by omega); omega
        have WX : Hid (∀ W, Calls Try.prog 27 #[.int .i64 (p.getD 0 0), .int .i64 n] W fun e w' => e = .returned (.int .i64 x) ∧ w' = W) := fun W => by
          rw [← hx]; exact within_q _ _ W k0.1 k0.2 (by omega) (by omega)
        have WY : Hid (∀ W, Calls Try.prog 27 #[.int .i64 (p.getD 1 0), .int .i64 n] W fun e w' => e = .returned (.int .i64 y) ∧ w' = W) := fun W => by
          rw [← hy]; exact within_q _ _ W k1.1 k1.2 (by omega) (by omega)
        clear hx hy hcc hrd2 h64 k0 k1 hl2
        generalize p.getD 0 0 = y0 at *
        generalize p.getD 1 0 = y1 at *
        generalize p.length = pl at *
        go_wp2_with fail
        go_quiet ((go_at_call 27; first | exact Calls.quiet_of_same (WX.out _) | exact Calls.quiet_of_same (WY.out _)))
        clear WX WY c0 c1' hct
        have HMQ : Hid (Met w3 n g (wr.drewN nq) ab mb cb vs Bt) := HMT.out.ext (below_drewN (Below.refl _ wr) nq)
        clear HMT
        generalize wr.drewN nq = w5 at *
        have HAS : Hid (∀ (u z : Int) (W : World), Below w5.heap.size w5 W → Calls Try.prog 28 #[.int .i64 u, .int .i64 z, .pointer (some ⟨g, 0, none⟩)] W fun e w' => e = .returned (.bool (decide ([u, z] ∈ Bt))) ∧ Below W.heap.size W w') := fun u z W hW =>
          has_any u z Bt ab mb cb g W (rdr_ext HMQ.out.rd hW) (by omega) (fun b hb => (HMQ.out.ok b hb).1) (HMQ.out.ext hW).cell (HMQ.out.ext hW).lt
        by_cases hxy : x = y
        · have hbn : ((x : Int) != (y : Int)) = false := by simp [hxy]
          clear hxy
          go_wp2
          go_roundw
          case rel => exact ⟨t + 1, ab, mb, cb, vs, Bt, by omega, by go_num, HMQ.out⟩
          case measure => simp [intOf]; omega
        · have hbn : ((x : Int) != (y : Int)) = true := by simp; omega
          have HXY := Lib.hid hxy
          clear hxy
          by_cases h1 : [(x : Int), (y : Int)] ∈ Bt
          · have q := HAS.out x y w5 (Below.refl _ w5)
            rw [decide_eq_true h1] at q
            have Q := Lib.hid q
            clear q h1
            go_wp2_with fail
            refine Q.out.mono ?_
            rintro e w6 ⟨rfl, hb6⟩
            have HM6 := Lib.hid (HMQ.out.ext hb6)
            clear Q hb6
            go_wp2
            go_roundw
            case rel => exact ⟨t + 1, ab, mb, cb, vs, Bt, by omega, by go_num, HM6.out⟩
            case measure => simp [intOf]; omega
          · have q := HAS.out x y w5 (Below.refl _ w5)
            rw [decide_eq_false h1] at q
            have Q := Lib.hid q
            have H1 := Lib.hid h1
            clear q h1
            go_wp2_with fail
            refine Q.out.mono ?_
            rintro e w6 ⟨rfl, hb6⟩
            clear Q
            by_cases h2 : [(y : Int), (x : Int)] ∈ Bt
            · have q := HAS.out y x w6 hb6
              rw [decide_eq_true h2] at q
              have Q := Lib.hid q
              have HB6 := Lib.hid hb6
              clear q h2 hb6
              go_wp2_with fail
              refine Q.out.mono ?_
              rintro e w7 ⟨rfl, hb7⟩
              have HM7 := Lib.hid ((HMQ.out.ext HB6.out).ext hb7)
              clear Q hb7 HB6
              go_wp2
              go_roundw
              case rel => exact ⟨t + 1, ab, mb, cb, vs, Bt, by omega, by go_num, HM7.out⟩
              case measure => simp [intOf]; omega
            · have q := HAS.out y x w6 hb6
              rw [decide_eq_false h2] at q
              have Q := Lib.hid q
              have H2 := Lib.hid h2
              have HB6 := Lib.hid hb6
              clear q h2 hb6
              go_wp2_with fail
              refine Q.out.mono ?_
              rintro e w7 ⟨rfl, hb7⟩
              have HM7 := Lib.hid ((HMQ.out.ext HB6.out).ext hb7)
              clear Q hb7 HB6 HMQ HAS
              have cb7 := HM7.out.cell
              have hba : Below w7.heap.size w7 (w7.alloc (.cells #[.int .i64 x, .int .i64 y] 3)) := (Below.refl _ w7).alloc (Nat.le_refl _) _
              have HM8 := Lib.hid (HM7.out.ext hba)
              have hz7 := HM7.out.bel.size
              have HOU := Lib.hid (own_mono (own_lit w7 3 [(x : Int), (y : Int)] #[.int .i64 x, .int .i64 y] rfl (by unfold maxLen; simp)) hz7)
              have hrow8 := HM8.out.row
              have hz8 := HM8.out.bel.size
              have hs8 : (w7.alloc (.cells #[.int .i64 x, .int .i64 y] 3)).heap.size = w7.heap.size + 1 := by simp
              have HP1 : Hid (∀ w9, (w7.alloc (.cells #[.int .i64 x, .int .i64 y] 3)).grownBy w9 (Value.slice ab mb cb).ownBlock → w9.cell? ⟨g, 0, none⟩ = some (.slice ab mb cb) ∧ w9.frozen? ⟨g, 0, none⟩ = false) := fun w9 hgr => by
                have b1 := HM8.out.box.kept hgr (own_far HM8.out.row HM8.out.box (by decide))
                exact ⟨by have := b1.cellAt 0 (by omega); simpa using this, b1.frozenAt 0⟩
              have hsn : ((w7.alloc (.cells #[.int .i64 x, .int .i64 y] 3)).alloc (.cells #[.slice (some ⟨w7.heap.size, 0, none⟩) 2 2] 23)).cell? ⟨g, 0, none⟩ = some (.slice ab mb cb) := by
                rw [World.cell?_alloc_lt _ _ _ HM8.out.lt]; exact HM8.out.cell
              clear hba
              obtain ⟨w8, hw8⟩ : ∃ w8, w8 = w7.alloc (.cells #[.int .i64 x, .int .i64 y] 3) := ⟨_, rfl⟩
              go_wp2_with (at_builtin; go_must (refine pushS rfl _ _ rfl (w7.alloc (.cells #[.int .i64 x, .int .i64 y] 3)) w3.heap.size _ mb vs (some ⟨w7.heap.size, 0, none⟩) 2 2 rfl (by rw [hs8]; rfl) (by exact hrow8) hz8 (by omega) ?_))
              intro g9 cap9 w9 row9 gr9 hg9 _
              have HP := Lib.hid (HM8.out.push gr9 row9 HOU.out ⟨rfl, ⟨by simp, by simp; omega⟩, ⟨by simp, by simp; omega⟩, by simp; have := HXY.out; omega⟩ H1.out H2.out)
              obtain ⟨pc1, pc2⟩ := HP1.out w9 gr9
              clear row9 gr9 hg9 hrow8 HM8 HM7 HOU HP1 hsn cb7 hw8
              go_wp2
              go_roundw
              case rel => exact ⟨t + 1, _, _, _, _, _, by omega, by go_num, HP.out⟩
              case measure => simp [intOf]; omega
    · obtain rfl : t = m := by omega
      have cbx := HMT.out.cell
      have TI := Lib.hid (tabIn_smallR HMT.out.rd (by omega) (fun l hl => by have := (HMT.out.ok l hl).1; omega))
      have HBC : Hid (bchk n Bt = 0) := by
        show _ = _
        unfold bchk
        rw [if_neg (by omega), if_neg (by rw [HMT.out.len]; omega), if_pos HMT.out.ok]
      have hml : (mcg n Bt).length = 2 * mb := by rw [mcg_len2, HMT.out.len]
      have HMK : Hid (vchk n (mcg n Bt) = 0) := mcg_ok (by omega) hn6 HMT.out.ok (by rw [HMT.out.len]; exact hmb) (mcg_len2 n Bt)
      go_wp2_with fail
      refine (DV.out n ab mb cb Bt wr TI.out HBC.out).mono ?_
      rintro e w5 ⟨a5, c5, rfl, _, _, r5, hb5⟩
      rw [hml] at r5 ⊢
      have HM5 := Lib.hid (HMT.out.ext hb5)
      have R5 := Lib.hid r5
      clear TI HBC cbx r5 hb5 HMT
      go_wp2_with fail
      refine (TD.out n a5 (2 * mb) c5 (mcg n Bt) w5 w5.heap.size (Nat.le_refl _) R5.out (by omega) HMK.out).mono ?_
      rintro e w6 ⟨a6, c6, rfl, _, _, r6, hb6⟩
      rw [duelsM_len] at r6 ⊢
      have HM6 := Lib.hid (HM5.out.ext hb6)
      obtain ⟨b6, o6, rfl, hbb6, sq6⟩ := rdr_square r6 (by omega) (fun l hl => duelsM_rows hl)
      have SQ6 := Lib.hid sq6
      clear r6 hb6 R5 HMK hml sq6
      go_wp2_with fail
      refine (good_zero w6.heap.size 0 2 2 _ (by omega) (zeros_at w6 24 2 #[.int .i64 0, .int .i64 0] rfl)).mono ?_
      rintro e w' ⟨rfl, rfl⟩
      have hba : Below w6.heap.size w6 (w6.alloc (.cells #[.int .i64 0, .int .i64 0] 24)) := (Below.refl _ w6).alloc (Nat.le_refl _) _
      have HM7 := Lib.hid (HM6.out.ext hba)
      have SQ7 := Lib.hid (SQ6.out.below hba (Nat.le_refl _) hbb6)
      have hz7 := hba.size
      obtain ⟨B7, hB7⟩ : ∃ B7, B7 = w6.heap.size := ⟨_, rfl⟩
      rw [← hB7] at hbb6 SQ7 hz7
      have hwe : Hid (w6.heap.size = B7) := hB7.symm
      clear hba hB7 SQ6 HM6
      generalize w6.alloc (.cells #[.int .i64 0, .int .i64 0] 24) = w7 at *
      clear hwe
      have HDF : Hid (∀ x y : Nat, x < n → y < n → ([(x : Int), (y : Int)] ∈ Bt → ent (duelsM n (mcg n Bt)) x y - ent (duelsM n (mcg n Bt)) y x = 2) ∧ ([(y : Int), (x : Int)] ∈ Bt → ent (duelsM n (mcg n Bt)) x y - ent (duelsM n (mcg n Bt)) y x = -2) ∧ ([(x : Int), (y : Int)] ∉ Bt → [(y : Int), (x : Int)] ∉ Bt → ent (duelsM n (mcg n Bt)) x y - ent (duelsM n (mcg n Bt)) y x = 0)) := fun x y hx hy => by
        rw [ent_duels n _ hx hy, ent_duels n _ hy hx]
        exact dif_mcg hn6 HM7.out.ok HM7.out.fresh hx hy
      have HBD : Hid (∀ x y, 0 ≤ ent (duelsM n (mcg n Bt)) x y ∧ ent (duelsM n (mcg n Bt)) x y ≤ 30) := fun x y => ent_duels_bd n _ (by rw [mcg_len2, HM7.out.len]; omega) x y
      generalize duelsM n (mcg n Bt) = M at *
      have HAS : Hid (∀ (u z : Int) (W : World), Below w7.heap.size w7 W → Calls Try.prog 28 #[.int .i64 u, .int .i64 z, .pointer (some ⟨g, 0, none⟩)] W fun e w' => e = .returned (.bool (decide ([u, z] ∈ Bt))) ∧ Below W.heap.size W w') := fun u z W hW =>
        has_any u z Bt ab mb cb g W (rdr_ext HM7.out.rd hW) (by omega) (fun b hb => (HM7.out.ok b hb).1) (HM7.out.ext hW).cell (HM7.out.ext hW).lt
      have HB7 := Lib.hid (ext_trans HB3.out HM7.out.bel)
      clear HM5
      go_wp2_with fail
      go_loopw [120] (fun i wr => ∃ x : Nat, x ≤ n ∧ i = .int .i64 x ∧ Below w7.heap.size w7 wr) (fun i _ => n - (intOf i).toNat)
      case atStart => exact ⟨0, Nat.zero_le _, rfl, Below.refl _ w7⟩
      case round =>
        obtain ⟨x, hx, rfl, hbel⟩ := hrel
        by_cases hxn : x < n
        · obtain ⟨wo, rfl⟩ : ∃ wo, wo = wr := ⟨_, rfl⟩
          go_wp2_with fail
          go_loopw [124] (fun i wr => ∃ y : Nat, y ≤ n ∧ i = .int .i64 y ∧ Below w7.heap.size w7 wr) (fun i _ => n - (intOf i).toNat)
          case atStart => exact ⟨0, Nat.zero_le _, rfl, hbel⟩
          case round =>
            clear hbel
            obtain ⟨y, hy, rfl, hbel⟩ := hrel
            by_cases hyn : y < n
            · obtain ⟨bx, ox, cx, hx1, hx2, hx4, hx5, hx3⟩ := SQ7.out x hxn
              obtain ⟨by_, oy, cy, hy1, hy2, hy4, hy5, hy3⟩ := SQ7.out y hyn
              have s1 : wr.cell? ⟨b6, o6 + x, none⟩ = some (.slice (some ⟨bx, ox, none⟩) n cx) := (hbel.cell (by show b6 < _; omega)).trans hx1
              have s2 : wr.cell? ⟨b6, o6 + y, none⟩ = some (.slice (some ⟨by_, oy, none⟩) n cy) := (hbel.cell (by show b6 < _; omega)).trans hy1
              have s3 : wr.cell? ⟨bx, ox + y, none⟩ = some (.int .i64 (ent M x y)) := (hbel.cell (by show bx < _; omega)).trans (hx3 y hyn)
              have s4 : wr.cell? ⟨by_, oy + x, none⟩ = some (.int .i64 (ent M y x)) := (hbel.cell (by show by_ < _; omega)).trans (hy3 x hxn)
              clear hx1 hx3 hy1 hy3
              have e1 := HBD.out x y
              have e2 := HBD.out y x
              obtain ⟨d1, d2, d3⟩ := HDF.out x y hxn hyn
              generalize ent M x y = exy at *
              generalize ent M y x = eyx at *
              by_cases h1 : [(x : Int), (y : Int)] ∈ Bt
              · have hd := d1 h1
                have h2 : [(y : Int), (x : Int)] ∉ Bt := fun h => by have := d2 h; omega
                have HA1 : Hid (decide ([(x : Int), (y : Int)] ∈ Bt) = true) := decide_eq_true h1
                have HA2 : Hid (decide ([(y : Int), (x : Int)] ∈ Bt) = false) := decide_eq_false h2
                clear d1 d2 d3 h1 h2
                go_wp2_with fail
                go_quiet (fail)
                clear s1 s2 s3 s4
                have hbq := below_drewN hbel nq
                clear hbel
                generalize wr.drewN nq = wa at *
                go_wp2_with fail
                refine (HAS.out x y wa hbq).mono ?_
                rintro e wb ⟨rfl, hbb⟩
                rw [HA1.out]
                have hqb := ext_trans hbq hbb
                clear hbb hbq
                go_wp2_with fail
                refine (HAS.out y x wb hqb).mono ?_
                rintro e wc ⟨rfl, hbc⟩
                rw [HA2.out]
                have hqc := ext_trans hqb hbc
                clear hbc hqb
                go_wp2_with fail
                refine (HAS.out x y wc hqc).mono ?_
                rintro e wd ⟨rfl, hbd⟩
                rw [HA1.out]
                have hqd := ext_trans hqc hbd
                clear hbd hqc
                go_wp2
                go_roundw
                case rel => exact ⟨y + 1, by omega, by go_num, hqd⟩
                case measure => simp [intOf]; omega
              · by_cases h2 : [(y : Int), (x : Int)] ∈ Bt
                · have hd := d2 h2
                  have HA1 : Hid (decide ([(x : Int), (y : Int)] ∈ Bt) = false) := decide_eq_false h1
                  have HA2 : Hid (decide ([(y : Int), (x : Int)] ∈ Bt) = true) := decide_eq_true h2
                  clear d1 d2 d3 h1 h2
                  go_wp2_with fail
                  go_quiet (fail)
                  clear s1 s2 s3 s4
                  have hbq := below_drewN hbel nq
                  clear hbel
                  generalize wr.drewN nq = wa at *
                  go_wp2_with fail
                  refine (HAS.out x y wa hbq).mono ?_
                  rintro e wb ⟨rfl, hbb⟩
                  rw [HA1.out]
                  have hqb := ext_trans hbq hbb
                  clear hbb hbq
                  go_wp2_with fail
                  refine (HAS.out y x wb hqb).mono ?_
                  rintro e wc ⟨rfl, hbc⟩
                  rw [HA2.out]
                  have hqc := ext_trans hqb hbc
                  clear hbc hqb
                  go_wp2_with fail
                  refine (HAS.out x y wc hqc).mono ?_
                  rintro e wd ⟨rfl, hbd⟩
                  rw [HA1.out]
                  have hqd := ext_trans hqc hbd
                  clear hbd hqc
                  go_wp2_with fail
                  refine (HAS.out y x wd hqd).mono ?_
                  rintro e we ⟨rfl, hbe⟩
                  rw [HA2.out]
                  have hqe := ext_trans hqd hbe
                  clear hbe hqd
                  go_wp2
                  go_roundw
                  case rel => exact ⟨y + 1, by omega, by go_num, hqe⟩
                  case measure => simp [intOf]; omega
                · have hd := d3 h1 h2
                  have HA1 : Hid (decide ([(x : Int), (y : Int)] ∈ Bt) = false) := decide_eq_false h1
                  have HA2 : Hid (decide ([(y : Int), (x : Int)] ∈ Bt) = false) := decide_eq_false h2
                  clear d1 d2 d3 h1 h2
                  go_wp2_with fail
                  go_quiet (fail)
                  clear s1 s2 s3 s4
                  have hbq := below_drewN hbel nq
                  clear hbel
                  generalize wr.drewN nq = wa at *
                  go_wp2_with fail
                  refine (HAS.out x y wa hbq).mono ?_
                  rintro e wb ⟨rfl, hbb⟩
                  rw [HA1.out]
                  have hqb := ext_trans hbq hbb
                  clear hbb hbq
                  go_wp2_with fail
                  refine (HAS.out y x wb hqb).mono ?_
                  rintro e wc ⟨rfl, hbc⟩
                  rw [HA2.out]
                  have hqc := ext_trans hqb hbc
                  clear hbc hqb
                  go_wp2_with fail
                  refine (HAS.out x y wc hqc).mono ?_
                  rintro e wd ⟨rfl, hbd⟩
                  rw [HA1.out]
                  have hqd := ext_trans hqc hbd
                  clear hbd hqc
                  go_wp2_with fail
                  refine (HAS.out y x wd hqd).mono ?_
                  rintro e we ⟨rfl, hbe⟩
                  rw [HA2.out]
                  have hqe := ext_trans hqd hbe
                  clear hbe hqd
                  go_wp2
                  go_roundw
                  case rel => exact ⟨y + 1, by omega, by go_num, hqe⟩
                  case measure => simp [intOf]; omega
            · obtain rfl : y = n := by omega
              go_wp2
              go_roundw
              case rel => exact ⟨x + 1, by omega, by go_num, hbel⟩
              case measure => simp [intOf]; omega
        · obtain rfl : x = n := by omega
          go_wp2
          go_ret
          exact ⟨rfl, ext_trans HB7.out hbel⟩
end Go.Proofs.Ytbmefccljbndeaa

/-
  saddle.Turned answers what the document says, whatever is handed in that a machine can hold, in rows of its own; nothing that was there is written.
-/
import Derived.Test.YtcecpcibfbfanaaCSaCheck
import Derived.Test.YtcecpcibfbfanaaSqPay
import Derived.Test.YtcecpcibfbfanaaMakeR
namespace Fm
set_option linter.unusedVariables false

/-- A row of the turned table, its first x entries filled. -/
def turnR (M : List (List Int)) (r y x : Nat) : List Int := fnL r (fun j => if j.toNat < x then -ent M j.toNat y else 0)
/-- The turned table: y rows filled; then also the first x entries of the row y, the rows behind it still nil. -/
def turnU (M : List (List Int)) (r k y : Nat) : List (List Int) := (List.range y).map (fun t => turnR M r t r) ++ List.replicate (k - y) []
def turnV (M : List (List Int)) (r k y x : Nat) : List (List Int) := (List.range y).map (fun t => turnR M r t r) ++ turnR M r y x :: List.replicate (k - (y + 1)) []
theorem turnR_len (M : List (List Int)) (r y x : Nat) : (turnR M r y x).length = r := fnL_len r _
theorem turnU_len {M : List (List Int)} {r k y : Nat} (h : y ≤ k) : (turnU M r k y).length = k := by simp [turnU]; omega
theorem turnV_len {M : List (List Int)} {r k y x : Nat} (h : y < k) : (turnV M r k y x).length = k := by simp [turnV]; omega
theorem turnU_zero (M : List (List Int)) (r k : Nat) : List.replicate k [] = turnU M r k 0 := by simp [turnU]
theorem turnR_zero (M : List (List Int)) (r y : Nat) : List.replicate r 0 = turnR M r y 0 := by
  rw [zeroL]
  exact fnL_congr r (fun j hj => by rw [if_neg (by omega)])
theorem turnU_set {M : List (List Int)} {r k y : Nat} (h : y < k) : (turnU M r k y).set y (List.replicate r 0) = turnV M r k y 0 := by
  unfold turnU turnV
  rw [turnR_zero M r y, List.set_append_right _ _ (by simp), show k - y = (k - (y + 1)) + 1 by omega, List.replicate_succ]
  simp
theorem turnV_row {M : List (List Int)} {r k y x : Nat} : (turnV M r k y x).getD y [] = turnR M r y x := by
  unfold turnV
  rw [List.getD_eq_getElem?_getD, List.getElem?_append_right (by simp)]
  simp
theorem turnR_set {M : List (List Int)} {r y x : Nat} (h : x < r) : (turnR M r y x).set x (-ent M x y) = turnR M r y (x + 1) := by
  unfold turnR
  rw [fnL_set r _ h]
  refine fnL_congr r (fun j hj => ?_)
  rw [Int.toNat_natCast]
  by_cases e : j = x
  · subst e; rw [if_pos rfl, if_pos (by omega)]
  · rw [if_neg (by omega)]
    by_cases h2 : j < x
    · rw [if_pos h2, if_pos (by omega)]
    · rw [if_neg h2, if_neg (by omega)]
theorem turnV_set {M : List (List Int)} {r k y x : Nat} (h : x < r) : (turnV M r k y x).set y (((turnV M r k y x).getD y []).set x (-ent M x y)) = turnV M r k y (x + 1) := by
  rw [turnV_row, turnR_set h]
  unfold turnV
  rw [List.set_append_right _ _ (by simp)]
  simp
theorem turnV_end {M : List (List Int)} {r k y : Nat} : turnV M r k y r = turnU M r k (y + 1) := by
  unfold turnV turnU
  rw [List.range_succ, List.map_append, List.append_assoc]
  rfl
theorem turnU_end {r k : Nat} {M : List (List Int)} (p : Pay r k M) : turnU M r k k = turnT k M := by
  have e0 : turnU M r k k = (List.range k).map (fun t => turnR M r t r) := by simp [turnU]
  rw [e0]
  apply List.ext_getElem
  · rw [List.length_map, List.length_range, turnT_len]
  · intro y h1 h2
    have hy : y < k := by rw [turnT_len] at h2; exact h2
    have e1 : (turnT k M)[y] = (turnT k M).getD y [] := by rw [List.getD_eq_getElem?_getD, List.getElem?_eq_getElem h2]; rfl
    rw [e1, turnT_at hy, List.getElem_map, List.getElem_range]
    apply List.ext_getElem
    · rw [turnR_len, List.length_map, colL_len, p.len]
    · intro x h3 h4
      have hx : x < r := by rw [turnR_len] at h3; exact h3
      rw [← getD_get h3, List.getElem_map]
      unfold turnR
      rw [fnL_at r _ hx, Int.toNat_natCast, if_pos hx, ← colL_at y (by rw [p.len]; exact hx), getD_get]
end Fm
namespace Go.Proofs.Ytcecpcibfbfanaa
open Go.RowKit Fm
set_option linter.unusedVariables false

theorem sTurnedE : STurnedE := by
  intro a m c M w ti ht
  have HC := Lib.hid (saCheck_any a m c M w ti)
  have hne : (pchk M != 0) = true := by simpa using ht
  clear ht ti
  generalize pchk M = r at *
  go_enter Try.func9, Try.ntmps9
  go_wp2_with fail
  refine HC.out.mono ?_
  rintro e w1 ⟨rfl, rfl⟩
  clear HC
  go_wp2
  go_ret2
  exact ⟨rfl, Below.refl _ w⟩

set_option maxHeartbeats 4000000 in
set_option maxRecDepth 100000 in
theorem sTurned : STurned := by
  intro r k a n c M w ti p
  have HC := Lib.hid (saCheck_any a n c M w ti)
  rw [p.chk] at HC
  obtain ⟨B, hB, hr0, _, _⟩ := ti
  have hr := hr0.more hB
  obtain ⟨hn, b, o, rfl, hb, hsq⟩ := rdr_sqP hr p
  subst hn
  have r1 := p.r1
  have r6 := p.r6
  have k1 := p.k1
  have k6 := p.k6
  have HSQ := Lib.hid hsq
  obtain ⟨b0, o0, c0, hb0, hc0, _, _, _⟩ := hsq 0 r1
  rw [Nat.add_zero] at hc0
  have hn0 : (0 : Int) < (n : Int) := by omega
  have HEND := Lib.hid (turnU_end p)
  have HENT : Hid (∀ x y, -1000 ≤ ent M x y ∧ ent M x y ≤ 1000) := fun x y => p.ent x y
  have hmk : ∀ W : World, (Instr.makeSlice 35 (.int .i64 n) (.int .i64 n)).run Try.prog W = .ok (.slice (some ⟨W.heap.size, 0, none⟩) n n) (W.alloc (.cells (zeros n) 3)) := make_ints n (by omega)
  have HMK := Lib.hid hmk
  have hmr : ∀ W : World, (Instr.makeSlice 22 (.int .i64 k) (.int .i64 k)).run Try.prog W = .ok (.slice (some ⟨W.heap.size, 0, none⟩) k k) (W.alloc (.cells (nils k) 35)) := make_rows k (by omega)
  have hm0 := Mat.made w 35 3 k (by unfold maxLen; omega)
  rw [turnU_zero M n k] at hm0
  have hbw0 : Below w.heap.size w (w.alloc (.cells (nils k) 35)) := (Below.refl _ w).alloc (Nat.le_refl _) _
  have HE : Hid (MatOwn (turnT k M) w = fun e w' => ∃ v, e = .returned (.tuple #[v, .int .i64 0]) ∧ Mat w' w.heap.size 35 3 v (turnT k M) ∧ Below w.heap.size w w') := rfl
  rw [HE.out]
  clear hr hr0 hsq p HE hmk
  go_enter Try.func9, Try.ntmps9
  go_wp2_with fail
  refine HC.out.mono ?_
  rintro e w1 ⟨rfl, rfl⟩
  clear HC
  go_wp2_with fail
  clear hmr
  generalize w.alloc (.cells (nils k) 35) = w2 at *
  obtain ⟨g, hg⟩ : ∃ g, w.heap.size = g := ⟨_, rfl⟩
  have hgl : w.heap.size ≤ g := by omega
  have hm1 : Mat w2 w.heap.size 35 3 (.slice (some ⟨g, 0, none⟩) k k) (turnU M n k 0) := by rw [hg] at hm0 ⊢; exact hm0
  rw [show Value.slice (some ⟨w.heap.size, 0, none⟩) k k = Value.slice (some ⟨g, 0, none⟩) k k by rw [hg]]
  clear hm0 hg
  go_loopw [21] (fun yv wr => ∃ y : Nat, y ≤ k ∧ yv = .int .i64 y ∧ Mat wr w.heap.size 35 3 (.slice (some ⟨g, 0, none⟩) k k) (turnU M n k y) ∧ Below w.heap.size w wr) (fun yv _ => k - (intOf yv).toNat)
  case atStart => exact ⟨0, Nat.zero_le _, rfl, hm1, hbw0⟩
  case round =>
    obtain ⟨y, hy, rfl, hm, hbel⟩ := hrel
    clear hm1 hbw0
    by_cases hyk : y < k
    · have hz := hbel.size
      obtain ⟨u0, hcu0, hfu0, _⟩ := hm.row (turnU_len hy) hyk
      have hgs : g < wr.heap.size := by
        obtain ⟨g', cap', hgv, hg0, hgs, _, _⟩ := hm.form (by rw [turnU_len hy]; omega)
        injection hgv with hgv
        injection hgv with hgv
        injection hgv with hgv
        omega
      have hown := own_lit wr 3 (List.replicate n 0) (zeros n) rfl (by unfold maxLen; simp; omega)
      rw [List.length_replicate] at hown
      have hbz : Below wr.heap.size wr (wr.alloc (.cells (zeros n) 3)) := (Below.refl _ wr).alloc (Nat.le_refl _) _
      obtain ⟨m1, g1⟩ := hm.setRow (l := List.replicate n 0) (turnU_len hy) hyk (by decide) hbz (by rw [List.length_replicate]; exact hown) hz
      rw [turnU_set hyk] at m1
      have hb1 := (hbel.trans (hbz.mono hz)).grown g1 (by simp; omega) (fun y hy => by injection hy with hy; omega)
      have hmk := HMK.out
      have hc0' : ∀ ob, (wr.alloc ob).cell? ⟨g, y, none⟩ = some u0 := fun ob => (World.cell?_alloc_lt wr ob ⟨g, y, none⟩ hgs).trans hcu0
      have hf0' : ∀ ob, (wr.alloc ob).frozen? ⟨g, y, none⟩ = false := fun ob => by
        rw [← hfu0]; exact World.frozen?_of_block (Below.heap_alloc wr ob g hgs)
      rw [World.setCell_alloc_past _ _ _ _ hgs] at m1 hb1
      clear hm hbel hbz g1 hown hcu0 hfu0
      go_wp2_with fail
      clear hc0' hf0' hmk
      generalize hW : ((wr.setCell ⟨g, y, none⟩ (Value.slice (some ⟨wr.heap.size, 0, none⟩) n n)).alloc (.cells (zeros n) 3)) = wo at *
      clear hW
      go_loopw [32] (fun xv wr => ∃ x : Nat, x ≤ n ∧ xv = .int .i64 x ∧ Mat wr w.heap.size 35 3 (.slice (some ⟨g, 0, none⟩) k k) (turnV M n k y x) ∧ Below w.heap.size w wr) (fun xv _ => n - (intOf xv).toNat)
      case atStart => exact ⟨0, Nat.zero_le _, rfl, m1, hb1⟩
      case round =>
        obtain ⟨x, hx, rfl, hm2, hbel2⟩ := hrel
        clear m1 hb1
        by_cases hxn : x < n
        · have hz2 := hbel2.size
          obtain ⟨b', o', c', hb', hcell, hkc, hcm, hent⟩ := HSQ.out x hxn
          have hce := hent y hyk
          have q1 : wr.cell? ⟨b, o + x, none⟩ = some (.slice (some ⟨b', o', none⟩) k c') := (hbel2.cell (by exact hb)).trans hcell
          have q2 : wr.cell? ⟨b', o' + y, none⟩ = some (.int .i64 (ent M x y)) := (hbel2.cell (by exact hb')).trans hce
          obtain ⟨u, hcu, hfu, hou⟩ := hm2.row (turnV_len hyk) hyk
          rw [turnV_row, turnR_len] at hou
          obtain ⟨g', cap', rfl, hg1, hg2, hnc, hcm2, hcells⟩ := own_form hou (by omega)
          have hcv := hcells x hxn
          have hfv := hou.frozenAt x
          unfold maxLen at hcm2
          obtain ⟨m7, g7⟩ := hm2.setCell (turnV_len hyk) hyk (by decide) (by rw [turnV_row, turnR_len]) hcu x (-ent M x y)
          rw [turnV_set hxn] at m7
          have hb7 := hbel2.grown g7 hz2 (fun y hy => by injection hy with hy; omega)
          have hzb := HENT.out x y
          have hz1 := hzb.1
          have hz2' := hzb.2
          clear g7 hm2 hbel2 hou hcells hcell hent hce hfu hzb
          generalize ent M x y = z at *
          generalize (turnR M n y x).getD x 0 = z0 at *
          go_wp2_with fail
          go_region
          all_goals
            go_wp2
            go_roundw
            case rel => exact ⟨x + 1, by omega, by go_num, m7.drewN _, below_drewN hb7 _⟩
            case measure => simp [intOf]; omega
        · obtain rfl : x = n := by omega
          rw [turnV_end] at hm2
          go_wp2
          go_roundw
          case rel => exact ⟨y + 1, by omega, by go_num, hm2, hbel2⟩
          case measure => simp [intOf]; omega
    · obtain rfl : y = k := by omega
      rw [HEND.out] at hm
      go_wp2
      go_ret2
      exact ⟨_, rfl, hm, hbel⟩
end Go.Proofs.Ytcecpcibfbfanaa

/-
  plumeref.PathsOf at a right table: the table of the strongest paths, in rows of its own; nothing that was there is written.
-/
import Derived.Test.YtkenbogkjoafjaaCWayOf
import Derived.Test.YtkenbogkjoafjaaMatPush
import Derived.Test.YtkenbogkjoafjaaUpRows
import Derived.Test.YtkenbogkjoafjaaPush
import Derived.Test.YtkenbogkjoafjaaMakeR
namespace Go.Proofs.Ytkenbogkjoafjaa
open Go.RowKit Fm
set_option linter.unusedVariables false

/-- One cell more at the end of the x-th row. -/
theorem upPush {w wr w5 : World} {n x j : Nat} {P : List (List Int)} {u : Value} {g0 g cap0 cap : Nat} {y : Int} (hP : P.length = n) (hx : x < n) (hm : Mat wr w.heap.size 26 3 (.slice (some ⟨g0, 0, none⟩) n cap0) (rowsUp P n x j)) (hb : Below w.heap.size w wr)
    (hc : wr.cell? ⟨g0, x, none⟩ = some u) (hu : wr.ownsRow w.heap.size 3 1 u j (I ((P.getD x []).take j))) (hs : (P.getD x []).take (j + 1) = (P.getD x []).take j ++ [y]) (hl : ((P.getD x []).take (j + 1)).length = j + 1)
    (ho : w5.ownsRow w.heap.size 3 1 (.slice (some ⟨g, 0, none⟩) (j + 1) cap) (j + 1) (I ((P.getD x []).take j ++ [y]))) (hg : wr.grownBy w5 u.ownBlock) (hor : u.ownBlock = some g ∨ wr.heap.size < g) :
    (Mat (w5.setCell ⟨g0, x, none⟩ (.slice (some ⟨g, 0, none⟩) (j + 1) cap)) w.heap.size 26 3 (.slice (some ⟨g0, 0, none⟩) n cap0) (rowsUp P n x (j + 1)) ∧ Below w.heap.size w (w5.setCell ⟨g0, x, none⟩ (.slice (some ⟨g, 0, none⟩) (j + 1) cap))) ∧
      w5.cell? ⟨g0, x, none⟩ = some u ∧ w5.frozen? ⟨g0, x, none⟩ = false := by
  rw [← hs] at ho
  have hgl : w.heap.size ≤ g0 := by
    obtain ⟨vs, o1, _⟩ := hm
    exact (o1.lt g0 rfl).1
  obtain ⟨p1, p2, p3, p4⟩ := hm.pushRow (rowsUp_len hP hx j) hx (by decide) hc hg ho hl hor
  rw [rowsUp_set hP hx] at p1
  have b1 := hb.grown hg hb.size (fun b hb' => (hu.lt b hb').1)
  have b2 := b1.grown p2 b1.size (fun b hb' => by injection hb' with hb'; omega)
  exact ⟨⟨p1, b2⟩, p3, p4⟩

set_option maxHeartbeats 2000000 in
set_option maxRecDepth 100000 in
theorem pathsOf_any {n : Nat} {M : List (List Int)} (T : Tab n M) (a : Option Addr) (c : Nat) (w : World) (hr : RdR w w.heap.size a n M) :
    Calls Try.prog 10 #[.slice a n c] w fun e w' => ∃ v, e = .returned v ∧ Mat w' w.heap.size 26 3 v (pathM n M) ∧ Below w.heap.size w w' := by
  have h1 := T.pos
  have h6 := T.six
  have HT := Lib.hid T
  have HR := Lib.hid hr
  have hmk : ∀ W : World, (Instr.makeSlice 22 (.int .i64 n) (.int .i64 n)).run Try.prog W = .ok (.slice (some ⟨W.heap.size, 0, none⟩) n n) (W.alloc (.cells (nils n) 26)) := make_rows n (by omega)
  have HPL := Lib.hid (pathM_len n M)
  have HPR : Hid (∀ l ∈ pathM n M, l.length = n) := fun l hl => pathM_rows hl
  have HPE : Hid (∀ x y, x < n → y < n → ((pathM n M).getD x []).getD y 0 = pathE n M x y) := fun x y hx hy => pathM_ent hx hy
  have HPD : Hid (∀ x y, pathE n M x y = if x = y then 0 else wayF n M n x y (2 ^ x) 1000) := fun x y => rfl
  have QW : Hid (∀ x y W, x < n → y < n → Below w.heap.size w W → Calls Try.prog 23 #[.slice a n c, .int .i64 x, .int .i64 y, .int .i64 (wrap64 (2 ^ x)), .int .i64 1000] W fun e w' => e = .returned (.int .i64 (wayF n M n x y (2 ^ x) 1000)) ∧ ∃ m, w' = W.drewN m) := fun x y W hx hy hW => by
    rw [powW_at x (by omega)]
    exact wayOf_any T a c w.heap.size n x y (2 ^ x) 1000 W (freeN_le _ _) (by have := orW_lt 0 (by omega) x (by omega); rwa [Nat.zero_or] at this) hx hy (hr.below hW (Nat.le_refl _))
  generalize pathM n M = P at *
  clear hr T
  go_enter Try.func10, Try.ntmps10
  go_wp2_with fail
  have hm0 := Mat.made w 26 3 n (by unfold maxLen; omega)
  rw [rowsAt_zero P n] at hm0
  have hb0 : Below w.heap.size w (w.alloc (.cells (nils n) 26)) := (Below.refl _ w).alloc (Nat.le_refl _) _
  clear hmk
  go_loopw [12] (fun i wr => ∃ k : Nat, k ≤ n ∧ i = .int .i64 k ∧ Mat wr w.heap.size 26 3 (.slice (some ⟨w.heap.size, 0, none⟩) n n) (rowsAt P n k) ∧ Below w.heap.size w wr) (fun i _ => n - (intOf i).toNat)
  case atStart => exact ⟨0, Nat.zero_le _, rfl, hm0, hb0⟩
  case round =>
    obtain ⟨x, hk, rfl, hm1, hb1⟩ := hrel
    clear hm0 hb0
    by_cases hx : x < n
    · rw [rowsAt_up P hx] at hm1
      have hrl : (P.getD x []).length = n := HPR.out _ (memR (by rw [HPL.out]; exact hx))
      have HRL := Lib.hid hrl
      clear hrl
      obtain ⟨w2, rfl⟩ : ∃ w2, w2 = wr := ⟨_, rfl⟩
      go_wp2_with fail
      go_loopw [17] (fun i wr => ∃ j : Nat, j ≤ n ∧ i = .int .i64 j ∧ Mat wr w.heap.size 26 3 (.slice (some ⟨w.heap.size, 0, none⟩) n n) (rowsUp P n x j) ∧ Below w.heap.size w wr) (fun i _ => n - (intOf i).toNat)
      case atStart => exact ⟨0, Nat.zero_le _, rfl, hm1, hb1⟩
      case round =>
        obtain ⟨j, hj, rfl, hm2, hb2⟩ := hrel
        clear hm1 hb1
        by_cases hjn : j < n
        · obtain ⟨u, hc, hf, ho⟩ := hm2.row (rowsUp_len HPL.out hx j) hx
          rw [rowsUp_at HPL.out hx j] at ho
          have htl : ((P.getD x []).take j).length = j := by rw [List.length_take, HRL.out]; omega
          rw [htl] at ho
          obtain ⟨ua, uc, rfl, _, _⟩ := own_slice ho
          have hsn : (P.getD x []).take (j + 1) = (P.getD x []).take j ++ [pathE n M x j] := by
            rw [take_succ_getD _ j (by rw [HRL.out]; exact hjn), HPE.out x j hx hjn]
          have HSN := Lib.hid hsn
          have HTL : Hid (((P.getD x []).take (j + 1)).length = j + 1) := by show _ = _; rw [List.length_take, HRL.out]; omega
          have HPD2 := Lib.hid (HPD.out x j)
          have QW2 := Lib.hid (QW.out x j)
          clear hsn htl
          generalize pathE n M x j = pe at *
          have hz := hb2.size
          by_cases hxj : x = j
          · rw [if_pos hxj] at HPD2
            obtain rfl : pe = 0 := HPD2.out
            have hne : ((x : Int) != (j : Int)) = false := by subst hxj; simp
            have HMR := Lib.hid hm2
            have HB2 := Lib.hid hb2
            have HXJ := Lib.hid hxj
            clear hxj QW2 HPD2 hm2 hb2
            go_wp2_with (at_builtin; refine push1 rfl _ _ rfl wr w.heap.size _ j _ 0 rfl rfl (by exact ho) (by omega) (by omega) ?_)
            intro g cap w5 o5 g5 hor hlt5
            obtain ⟨PQ, pc, pf⟩ := upPush HPL.out hx HMR.out HB2.out hc ho HSN.out HTL.out o5 g5 hor
            have HPQ := Lib.hid PQ
            clear PQ o5 g5 hor ho hc hf HMR HB2 HSN HTL
            go_wp2
            go_roundw
            case rel => exact ⟨j + 1, by omega, by go_num, HPQ.out.1, HPQ.out.2⟩
            case measure => simp [intOf]; omega
          · rw [if_neg hxj] at HPD2
            have hne : ((x : Int) != (j : Int)) = true := by simp; omega
            have HMR := Lib.hid hm2
            have QW3 := Lib.hid (QW2.out wr hx hjn hb2)
            have HB2 := Lib.hid hb2
            rw [← HPD2.out] at QW3
            clear hxj QW2 HPD2 hm2 hb2
            go_wp2_with fail
            refine QW3.out.mono ?_
            rintro e w3 ⟨rfl, mq, rfl⟩
            clear QW3
            obtain ⟨W3, hW3⟩ : ∃ W, W = wr.drewN mq := ⟨_, rfl⟩
            have HMR3 : Hid (Mat W3 w.heap.size 26 3 (.slice (some ⟨w.heap.size, 0, none⟩) n n) (rowsUp P n x j)) := by rw [hW3]; exact HMR.out.drewN mq
            have HB3 : Hid (Below w.heap.size w W3) := by rw [hW3]; exact below_drewN HB2.out mq
            have hc3 : W3.cell? ⟨w.heap.size, x, none⟩ = some (.slice ua j uc) := by rw [hW3]; exact hc
            have ho3 : W3.ownsRow w.heap.size 3 1 (.slice ua j uc) j (I ((P.getD x []).take j)) := by rw [hW3]; exact own_drewN ho mq
            have hz3 : w.heap.size ≤ W3.heap.size := HB3.out.size
            rw [← hW3]
            clear hW3 hc ho hf HMR HB2
            go_wp2_with (at_builtin; refine push1 rfl _ _ rfl W3 w.heap.size _ j _ pe rfl rfl (by exact ho3) (by omega) (by omega) ?_)
            intro g cap w5 o5 g5 hor hlt5
            obtain ⟨PQ, pc, pf⟩ := upPush HPL.out hx HMR3.out HB3.out hc3 ho3 HSN.out HTL.out o5 g5 hor
            have HPQ := Lib.hid PQ
            clear PQ o5 g5 hor ho3 hc3 HMR3 HB3 HSN HTL
            go_wp2
            go_roundw
            case rel => exact ⟨j + 1, by omega, by go_num, HPQ.out.1, HPQ.out.2⟩
            case measure => simp [intOf]; omega
        · obtain rfl : j = n := by omega
          rw [rowsUp_next HPL.out hx (by rw [HRL.out]; exact Nat.le_refl _)] at hm2
          go_wp2
          go_roundw
          case rel => exact ⟨x + 1, by omega, by go_num, hm2, hb2⟩
          case measure => simp [intOf]; omega
    · obtain rfl : x = n := by omega
      rw [rowsAt_end HPL.out] at hm1
      go_wp2
      go_ret
      exact ⟨_, rfl, hm1, hb1⟩
end Go.Proofs.Ytkenbogkjoafjaa

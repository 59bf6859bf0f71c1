/-
  widest.steps at a right table: the strengths of the single steps, in rows of its own; nothing that was there is written.
-/
import Derived.Test.YthcaipnlgbnfkaaM3
import Derived.Test.YthcaipnlgbnfkaaM26
import Derived.Test.YthcaipnlgbnfkaaPureA
import Derived.Test.YthcaipnlgbnfkaaMakeR
import Derived.Test.YthcaipnlgbnfkaaM4
import Derived.BigQuiet
import Derived.BigRegion
import Derived.RegionTactic
import Derived.Deep.QuietTactic
namespace Go.Proofs.Ythcaipnlgbnfkaa
open Go.RowKit Fm
set_option linter.unusedVariables false

set_option maxHeartbeats 2000000 in
set_option maxRecDepth 100000 in
theorem steps_any {n : Nat} {M : List (List Int)} (T : Tab n M) (a : Option Addr) (c B : Nat) (w : World) (hB : B ≤ w.heap.size) (hr : RdR w B a n M) :
    Calls Try.prog 99 #[.slice a n c] w fun e w' => ∃ v, e = .returned v ∧ Mat w' w.heap.size 22 3 v (fwM n M 0) ∧ Below w.heap.size w w' := by
  have h1 := T.pos
  have h6 := T.six
  obtain ⟨b, o, rfl, hbB, hsq⟩ := rdr_square hr (by omega) T.rows
  have HSQ := Lib.hid hsq
  have HPL := Lib.hid (fwM_len n M 0)
  have HPE : Hid (∀ x, x < n → (fwM n M 0).getD x [] = stepL n M x n) := fun x hx => stepL_end hx
  have hmk : ∀ W : World, (Instr.makeSlice 22 (.int .i64 n) (.int .i64 n)).run Try.prog W = .ok (.slice (some ⟨W.heap.size, 0, none⟩) n n) (W.alloc (.cells (zeros n) 3)) := make_ints n (by omega)
  have hmr : ∀ W : World, (Instr.makeSlice 44 (.int .i64 n) (.int .i64 n)).run Try.prog W = .ok (.slice (some ⟨W.heap.size, 0, none⟩) n n) (W.alloc (.cells (nils n) 22)) := make_rows n (by omega)
  have HMK := Lib.hid hmk
  clear hsq hr hmk T
  generalize fwM n M 0 = P at *
  go_enter Try.func99, Try.ntmps99
  go_wp2_with fail
  have hm0 := Mat.made w 22 3 n (by unfold maxLen; omega)
  rw [rowsAt_zero P n] at hm0
  have hb0 : Below w.heap.size w (w.alloc (.cells (nils n) 22)) := (Below.refl _ w).alloc (Nat.le_refl _) _
  clear hmr
  generalize w.alloc (.cells (nils n) 22) = w2 at *
  obtain ⟨g, hg⟩ : ∃ g, w.heap.size = g := ⟨_, rfl⟩
  have hgl : w.heap.size ≤ g := by omega
  have hm1 : Mat w2 w.heap.size 22 3 (.slice (some ⟨g, 0, none⟩) n n) (rowsAt P n 0) := by rw [hg] at hm0 ⊢; exact hm0
  rw [show Value.slice (some ⟨w.heap.size, 0, none⟩) n n = Value.slice (some ⟨g, 0, none⟩) n n by rw [hg]]
  clear hm0 hg
  go_loopw [11] (fun i wr => ∃ k : Nat, k ≤ n ∧ i = .int .i64 k ∧ Mat wr w.heap.size 22 3 (.slice (some ⟨g, 0, none⟩) n n) (rowsAt P n k) ∧ Below w.heap.size w wr) (fun i _ => n - (intOf i).toNat)
  case atStart => exact ⟨0, Nat.zero_le _, rfl, hm1, hb0⟩
  case round =>
    obtain ⟨k, hk, rfl, hm, hbel⟩ := hrel
    clear hm1 hb0
    by_cases hlt : k < n
    · have hz := hbel.size
      have hal := rowsAt_len HPL.out hk
      obtain ⟨u0, hc0, hf0, _⟩ := hm.row hal hlt
      have hgs := hm.form (by rw [hal]; omega)
      have hown := own_lit wr 3 (List.replicate n 0) (zeros n) rfl (by unfold maxLen; simp; omega)
      rw [List.length_replicate] at hown
      have hbz : Below wr.heap.size wr (wr.alloc (.cells (zeros n) 3)) := (Below.refl _ wr).alloc (Nat.le_refl _) _
      obtain ⟨m1, g1⟩ := hm.setRow (l := List.replicate n 0) hal hlt (by decide) hbz (by rw [List.length_replicate]; exact hown) hz
      rw [rowsAt_set HPL.out hlt, stepL_zero n M k] at m1
      have hgw : w.heap.size ≤ g ∧ g < wr.heap.size := by
        obtain ⟨g', cap, hv, hg0, hg, _⟩ := hgs
        injection hv with hv; injection hv with hv; injection hv with hv; omega
      have hb1 := (hbel.trans (hbz.mono hz)).grown g1 (by simp; omega) (fun y hy => by injection hy with hy; omega)
      have hmk := HMK.out
      have hc0' : ∀ ob, (wr.alloc ob).cell? ⟨g, k, none⟩ = some u0 := fun ob => (World.cell?_alloc_lt wr ob ⟨g, k, none⟩ hgw.2).trans hc0
      have hf0' : ∀ ob, (wr.alloc ob).frozen? ⟨g, k, none⟩ = false := fun ob => by
        rw [← hf0]; exact World.frozen?_of_block (Below.heap_alloc wr ob g hgw.2)
      have hgl2 := hgw.2
      rw [World.setCell_alloc_past _ _ _ _ hgl2] at m1 hb1
      clear hm hbel hbz g1 hown hc0 hf0 hgs hal
      go_wp2_with fail
      clear hmk hc0' hf0' hgw hgl2 hz
      generalize (wr.setCell ⟨g, k, none⟩ (.slice (some ⟨wr.heap.size, 0, none⟩) n n)).alloc (.cells (zeros n) 3) = w3 at *
      go_loopw [22] (fun i wr => ∃ j : Nat, j ≤ n ∧ i = .int .i64 j ∧ Mat wr w.heap.size 22 3 (.slice (some ⟨g, 0, none⟩) n n) (rowsMid P n k (stepL n M k j)) ∧ Below w.heap.size w wr) (fun i _ => n - (intOf i).toNat)
      case atStart => exact ⟨0, Nat.zero_le _, rfl, m1, hb1⟩
      case round =>
        obtain ⟨j, hj, rfl, hm2, hbel2⟩ := hrel
        clear m1 hb1
        by_cases hjn : j < n
        · have hz2 := hbel2.size
          obtain ⟨bx, ox, cx, r1, _, _, _, hx3⟩ := HSQ.out.below hbel2 hB hbB k hlt
          obtain ⟨by_, oy, cy, r2, _, _, _, hy3⟩ := HSQ.out.below hbel2 hB hbB j hjn
          have r3 := hx3 j hjn
          have r4 := hy3 k hlt
          clear hx3 hy3
          by_cases hgt : ent M j k < ent M k j
          · have hml := rowsMid_len HPL.out hlt (stepL n M k j)
            obtain ⟨u, hcu, hfu, hou⟩ := hm2.row hml hlt
            have hat := rowsMid_at HPL.out hlt (stepL n M k j)
            rw [hat, stepL_len] at hou
            obtain ⟨g', cap', rfl, hg1, hg2, hnc, hcm2, hcells⟩ := own_form hou (by omega)
            have hcv := hcells j hjn
            rw [stepL_at hjn] at hcv
            have hfv := hou.frozenAt j
            unfold maxLen at hcm2
            obtain ⟨m7, g7⟩ := hm2.setCell hml hlt (by decide) (by rw [hat, stepL_len]) hcu j (ent M k j)
            rw [hat, stepL_yes hjn hgt, rowsMid_set HPL.out hlt] at m7
            have hb7 := hbel2.grown g7 hz2 (fun y hy => by injection hy with hy; omega)
            clear g7 hm2 hbel2 hou hcells hml hat
            generalize ent M k j = ekj at *
            generalize ent M j k = ejk at *
            go_wp2_with fail
            go_quiet (fail)
            go_wp2_with fail
            obtain ⟨W2, hW2⟩ : ∃ W, W = wr.drewN nq := ⟨_, rfl⟩
            have d1 : W2.cell? ⟨b, o + k, none⟩ = some (.slice (some ⟨bx, ox, none⟩) n cx) := by rw [hW2]; exact r1
            have d3 : W2.cell? ⟨bx, ox + j, none⟩ = some (.int .i64 ekj) := by rw [hW2]; exact r3
            have d5 : W2.cell? ⟨g, k, none⟩ = some (.slice (some ⟨g', 0, none⟩) n cap') := by rw [hW2]; exact hcu
            have d6 : W2.cell? ⟨g', j, none⟩ = some (.int .i64 0) := by rw [hW2]; exact hcv
            have d7 : W2.frozen? ⟨g', j, none⟩ = false := by rw [hW2]; exact hfv
            have m8 : Mat (W2.setCell ⟨g', j, none⟩ (.int .i64 ekj)) w.heap.size 22 3 (.slice (some ⟨g, 0, none⟩) n n) (rowsMid P n k (stepL n M k (j + 1))) := by rw [hW2]; exact m7
            have hb8 : Below w.heap.size w (W2.setCell ⟨g', j, none⟩ (.int .i64 ekj)) := by rw [hW2]; exact below_drewN hb7 nq
            rw [← hW2]
            clear hW2 r1 r2 r3 r4 hcu hcv hfv hfu m7 hb7
            go_region
            all_goals
              go_wp2
              go_roundw
              case rel => exact ⟨j + 1, by omega, by go_num, m8.drewN _, below_drewN hb8 _⟩
              case measure => simp [intOf]; omega
          · rw [stepL_no hgt] at hm2
            generalize ent M k j = ekj at *
            generalize ent M j k = ejk at *
            go_wp2_with fail
            go_quiet (fail)
            go_wp2
            go_roundw
            case rel => exact ⟨j + 1, by omega, by go_num, hm2.drewN _, below_drewN hbel2 _⟩
            case measure => simp [intOf]; omega
        · obtain rfl : j = n := by omega
          rw [rowsMid_next HPL.out hlt (HPE.out k hlt)] at hm2
          go_wp2
          go_roundw
          case rel => exact ⟨k + 1, by omega, by go_num, hm2, hbel2⟩
          case measure => simp [intOf]; omega
    · obtain rfl : k = n := by omega
      rw [rowsAt_end HPL.out] at hm
      go_wp2
      go_ret
      exact ⟨_, rfl, hm, hbel⟩
end Go.Proofs.Ythcaipnlgbnfkaa

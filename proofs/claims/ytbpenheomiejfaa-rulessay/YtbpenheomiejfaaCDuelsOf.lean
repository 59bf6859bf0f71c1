/-
  plumeref.DuelsOf at votes: it returns the pairwise matrix; nothing that was there is written.
-/
import Derived.Test.YtbpenheomiejfaaCPlaces
import Derived.Test.YtbpenheomiejfaaPushS
import Derived.Test.YtbpenheomiejfaaMakeR
import Derived.Test.YtbpenheomiejfaaPureA
import Derived.BigQuiet
import Derived.Deep.QuietTactic
import Derived.WalkKit
import Derived.KernelRfl
import Derived.Laws.NewBlocks
namespace Go.Proofs.Ytbpenheomiejfaa
open Go.RowKit Fm
set_option linter.unusedVariables false

set_option maxHeartbeats 4000000 in
set_option maxRecDepth 100000 in
theorem duelsOf_any {n : Nat} (h1 : 1 ≤ n) (h6 : n ≤ 6) (a : Option Addr) (c : Nat) (V : List (List Int)) (w : World) (B : Nat) (hB : B ≤ w.heap.size) (hr : RdR w B a V.length V) (hV : V.length ≤ 30) (hp : ∀ p ∈ V, p.Perm (sides n)) :
    Calls Try.prog 51 #[.int .i64 n, .slice a V.length c] w fun e w' => e = .returned (.slice (some ⟨w.heap.size, 0, none⟩) n n) ∧ Mat w' w.heap.size 23 3 (.slice (some ⟨w.heap.size, 0, none⟩) n n) (duelsM n V) ∧ Below w.heap.size w w' := by
  have hmk : ∀ W : World, (Instr.makeSlice 23 (.int .i64 n) (.int .i64 n)).run Try.prog W = .ok (.slice (some ⟨W.heap.size, 0, none⟩) n n) (W.alloc (.cells (zeros n) 3)) := make_ints n (by omega)
  have hmr : ∀ W : World, (Instr.makeSlice 22 (.int .i64 n) (.int .i64 n)).run Try.prog W = .ok (.slice (some ⟨W.heap.size, 0, none⟩) n n) (W.alloc (.cells (nils n) 23)) := make_rows n (by omega)
  have HMK := Lib.hid hmk
  have HR := Lib.hid hr
  have HP := Lib.hid hp
  clear hr hp hmk
  go_enter Try.func51, Try.ntmps51
  go_wp2
  clear hmr
  have hm0 := Mat.made w 23 3 n (by unfold maxLen; omega)
  rw [partM0_zero n V] at hm0
  have hb0 : Below w.heap.size w (w.alloc (.cells (nils n) 23)) := (Below.refl _ w).alloc (Nat.le_refl _) _
  go_loopw [15] (fun i wr => ∃ k : Nat, k ≤ n ∧ i = .int .i64 k ∧ Mat wr w.heap.size 23 3 (.slice (some ⟨w.heap.size, 0, none⟩) n n) (partM0 n V k) ∧ Below w.heap.size w wr) (fun i _ => n - (intOf i).toNat)
  case atStart => exact ⟨0, Nat.zero_le _, rfl, hm0, hb0⟩
  case round =>
    obtain ⟨k, hk, rfl, hm, hbel⟩ := hrel
    clear hm0 hb0
    by_cases hlt : k < n
    · have hz := hbel.size
      obtain ⟨u0, hc0, hf0, _⟩ := hm.row (partM0_len n V k hk) hlt
      have hgs := hm.form (by rw [partM0_len n V k hk]; omega)
      have hown := own_lit wr 3 (List.replicate n 0) (zeros n) rfl (by unfold maxLen; simp; omega)
      rw [List.length_replicate] at hown
      have hbz : Below wr.heap.size wr (wr.alloc (.cells (zeros n) 3)) := (Below.refl _ wr).alloc (Nat.le_refl _) _
      obtain ⟨m1, g1⟩ := hm.setRow (l := List.replicate n 0) (partM0_len n V k hk) hlt (by decide) hbz (by rw [List.length_replicate]; exact hown) hz
      rw [partM0_set n V k _ hlt, partRow_zero n V k] at m1
      have hb1 := (hbel.trans (hbz.mono hz)).grown g1 (by simp; omega) (fun y hy => by injection hy with hy; omega)
      have hwl : w.heap.size < wr.heap.size := by
        obtain ⟨g, cap, hv, _, hg, _⟩ := hgs
        injection hv with hv; injection hv with hv; injection hv with hv; omega
      have hmk := HMK.out
      have hc0' : ∀ ob, (wr.alloc ob).cell? ⟨w.heap.size, k, none⟩ = some u0 := fun ob => (World.cell?_alloc_lt wr ob ⟨w.heap.size, k, none⟩ hwl).trans hc0
      have hf0' : ∀ ob, (wr.alloc ob).frozen? ⟨w.heap.size, k, none⟩ = false := fun ob => by
        rw [← hf0]; exact World.frozen?_of_block (Below.heap_alloc wr ob w.heap.size hwl)
      clear hm hbel hbz g1 hown hc0 hf0 hgs
      rw [World.setCell_alloc_past _ _ _ _ hwl] at m1 hb1
      go_wp2_with fail
      clear hmk hc0' hf0'
      generalize (wr.setCell ⟨w.heap.size, k, none⟩ (.slice (some ⟨wr.heap.size, 0, none⟩) n n)).alloc (.cells (zeros n) 3) = w5 at *
      go_loopw [24] (fun i wr => ∃ j : Nat, j ≤ n ∧ i = .int .i64 j ∧ Mat wr w.heap.size 23 3 (.slice (some ⟨w.heap.size, 0, none⟩) n n) (partM n V k (partRow n V [] k j)) ∧ Below w.heap.size w wr) (fun i _ => n - (intOf i).toNat)
      case atStart => exact ⟨0, Nat.zero_le _, rfl, m1, hb1⟩
      case round =>
        obtain ⟨j, hj, rfl, hm, hbel⟩ := hrel
        clear m1 hb1
        by_cases hjn : j < n
        · go_wp2_with fail
          go_loopw [29] (fun i wr => ∃ t : Nat, t ≤ V.length ∧ i = .int .i64 t ∧ Mat wr w.heap.size 23 3 (.slice (some ⟨w.heap.size, 0, none⟩) n n) (partM n V k (partRow n V (V.take t) k j)) ∧ Below w.heap.size w wr) (fun i _ => V.length - (intOf i).toNat)
          case atStart => exact ⟨0, Nat.zero_le _, rfl, hm, hbel⟩
          case round =>
            obtain ⟨t, ht, rfl, hm2, hbel2⟩ := hrel
            clear hm hbel
            have hz2 := hbel2.size
            by_cases htl : t < V.length
            · obtain ⟨b, o, a', c', rfl, hb, hcell, _, _, _, hrd⟩ := HR.out.at_ htl
              have hmem : V.getD t [] ∈ V := by rw [List.getD_eq_getElem?_getD, List.getElem?_eq_getElem htl]; exact List.getElem_mem htl
              have hperm := HP.out _ hmem
              have hpl : (V.getD t []).length = n := by have := hperm.length_eq; rwa [sides_len] at this
              have hct : wr.cell? ⟨b, o + t, none⟩ = some (.slice a' n c') := by
                rw [(hbel2.cell (by show b < _; omega)), hcell, hpl]
              have RD := Lib.hid (hrd.below hbel2 hB)
              rw [hpl] at RD
              have hsn : V.take (t + 1) = V.take t ++ [V.getD t []] := by
                rw [List.take_succ_eq_append_getElem htl, List.getD_eq_getElem?_getD, List.getElem?_eq_getElem htl]; rfl
              have HCN : Hid (cnt (V.take (t + 1)) k j = cnt (V.take t) k j + if pos (V.getD t []) k < pos (V.getD t []) j then 1 else 0) := by show _ = _; rw [hsn, cnt_snoc]
              have HPM := Lib.hid hperm
              clear hsn hcell hrd hmem hperm hpl
              generalize V.getD t [] = p at *
              go_wp2_with fail
              refine (places2_any HPM.out h1 h6 a' c' wr B (by omega) RD.out).mono ?_
              rintro e w6 ⟨rfl, o6, hb6⟩
              have z6 := hb6.size
              have hm6 := hm2.below hb6 (Nat.le_refl _)
              have hbel6 := hbel2.trans (hb6.mono hz2)
              have ck := own_cell o6 k hlt
              have cj := own_cell o6 j hjn
              rw [map_sides_getD n _ hlt] at ck
              rw [map_sides_getD n _ hjn] at cj
              clear o6 hb6 hm2 hbel2 hct
              obtain ⟨u, hcu, hfu, hou⟩ := hm6.row (partM_len n V k _ hlt) hlt
              rw [partM_getD] at hou
              rw [partRow_len] at hou
              obtain ⟨g', cap', rfl, hg1, hg2, hnc, hcm, hcells⟩ := own_form hou (by omega)
              have hcv := hcells j hjn
              rw [partRow_at n V _ _ hjn] at hcv
              have hfv := hou.frozenAt j
              have hcl := cnt_le (V.take t) k j
              have hcl2 : (V.take t).length ≤ 30 := by rw [List.length_take]; omega
              have bk : (k : Int) < (n : Int) := by omega
              have bj : (j : Int) < (n : Int) := by omega
              clear hcells hou
              unfold maxLen at hcm
              by_cases hcmp : pos p k < pos p j
              · have hcn : cnt (V.take (t + 1)) k j = cnt (V.take t) k j + 1 := by rw [HCN.out, if_pos hcmp]
                obtain ⟨m7, g7⟩ := hm6.setCell (partM_len n V k _ hlt) hlt (by decide) (by rw [partM_getD, partRow_len]) hcu j ((cnt (V.take t) k j : Nat) + 1)
                rw [partM_getD, partM_set] at m7
                have e7 : (partRow n V (V.take t) k j).set j (((cnt (V.take t) k j : Nat) : Int) + 1) = partRow n V (V.take (t + 1)) k j := by
                  rw [← partRow_set n V (V.take t) (V.take (t + 1)) k hjn, hcn]; rfl
                rw [e7] at m7
                have hb7 := hbel6.grown g7 hbel6.size (fun y hy => by injection hy with hy; omega)
                clear e7 g7 hm6 hbel6 hcn HCN
                generalize pos p k = pk at *
                generalize pos p j = pj at *
                generalize cnt (V.take t) k j = cc at *
                go_wp2_with fail
                go_quiet (fail)
                go_wp2
                go_roundw
                case rel => exact ⟨t + 1, by omega, by go_num, m7.drewN _, below_drewN hb7 _⟩
                case measure => simp [intOf]; omega
              · have hcn : cnt (V.take t) k j = cnt (V.take (t + 1)) k j := by rw [HCN.out, if_neg hcmp]; omega
                rw [partRow_congr n V _ _ k j hcn] at hm6
                clear hcn HCN
                have hcd : decide (pos p k < pos p j) = false := by simpa using hcmp
                generalize pos p k = pk at *
                generalize pos p j = pj at *
                go_wp2_with fail
                go_quiet (fail)
                go_wp2
                go_roundw
                case rel => exact ⟨t + 1, by omega, by go_num, hm6.drewN _, below_drewN hbel6 _⟩
                case measure => simp [intOf]; omega
            · obtain rfl : t = V.length := by omega
              rw [List.take_of_length_le (Nat.le_refl _), partRow_next] at hm2
              go_wp2
              go_roundw
              case rel => exact ⟨j + 1, by omega, by go_num, hm2, hbel2⟩
              case measure => simp [intOf]; omega
        · obtain rfl : j = n := by omega
          rw [partRow_end, partM_done] at hm
          go_wp2
          go_roundw
          case rel => exact ⟨k + 1, by omega, by go_num, hm, hbel⟩
          case measure => simp [intOf]; omega
    · obtain rfl : k = n := by omega
      rw [partM0_end] at hm
      go_wp2
      go_ret
      exact ⟨rfl, hm, hbel⟩
end Go.Proofs.Ytbpenheomiejfaa

/-
  plumeref.WinsOf at square tables of numbers from 0 to 30: what it returns; nothing that was there is written.
-/
import Derived.Test.YtbpenheomiejfaaPush
import Derived.Test.YtbpenheomiejfaaPureA
import Derived.BigQuiet
import Derived.BigRegion
import Derived.RegionTactic
import Derived.Deep.QuietTactic
import Derived.Deep.DeepCutAuto
import Derived.WalkKit
import Derived.KernelRfl
import Derived.Laws.NewBlocks
namespace Go.Proofs.Ytbpenheomiejfaa
open Go.RowKit Fm
set_option linter.unusedVariables false

/-- Two rows of the call's own, apart. -/
def TwoR (B : Nat) (w : World) (n : Nat) (wx : World) (s t : Value) (l m : List Int) : Prop :=
  ∃ ga gb, s = .slice (some ⟨ga, 0, none⟩) n n ∧ t = .slice (some ⟨gb, 0, none⟩) n n ∧ ga ≠ gb ∧ wx.ownsRow B 3 1 (.slice (some ⟨ga, 0, none⟩) n n) n (I l) ∧ wx.ownsRow B 3 1 (.slice (some ⟨gb, 0, none⟩) n n) n (I m) ∧ Below B w wx
theorem twoR_made (w : World) (n : Nat) (hn : n ≤ 1000000) (k : Nat) :
    TwoR w.heap.size w n (((w.alloc (.cells (zeros n) 3)).alloc (.cells (zeros n) 3)).drewN k) (.slice (some ⟨w.heap.size, 0, none⟩) n n) (.slice (some ⟨w.heap.size + 1, 0, none⟩) n n) (List.replicate n 0) (List.replicate n 0) ∧
    TwoR w.heap.size w n (((w.alloc (.cells (zeros n) 3)).alloc (.cells (zeros n) 3)).drewN k) (.slice (some ⟨w.heap.size + 1, 0, none⟩) n n) (.slice (some ⟨w.heap.size, 0, none⟩) n n) (List.replicate n 0) (List.replicate n 0) := by
  have h1 := own_lit w 3 (List.replicate n 0) (zeros n) rfl (by unfold maxLen; simp; omega)
  have h2 := own_lit (w.alloc (.cells (zeros n) 3)) 3 (List.replicate n 0) (zeros n) rfl (by unfold maxLen; simp; omega)
  rw [List.length_replicate] at h1 h2
  have e : (w.alloc (.cells (zeros n) 3)).heap.size = w.heap.size + 1 := by simp
  rw [e] at h2
  have h1' := h1.alloc (.cells (zeros n) 3)
  have h2' := own_mono h2 (Nat.le_succ w.heap.size)
  have hb : Below w.heap.size w ((w.alloc (.cells (zeros n) 3)).alloc (.cells (zeros n) 3)) := ((Below.refl _ w).alloc (Nat.le_refl _) _).alloc (by simp) _
  exact ⟨⟨_, _, rfl, rfl, by omega, own_drewN h1' k, own_drewN h2' k, below_drewN hb k⟩, ⟨_, _, rfl, rfl, by omega, own_drewN h2' k, own_drewN h1' k, below_drewN hb k⟩⟩

set_option maxHeartbeats 4000000 in
set_option maxRecDepth 100000 in
theorem winsOf_any {n : Nat} (h1 : 1 ≤ n) (h6 : n ≤ 1000) (a : Option Addr) (c : Nat) (M : List (List Int)) (w : World) (B : Nat) (hB : B ≤ w.heap.size) (hr : RdR w B a n M) (hl : ∀ l ∈ M, l.length = n) (hb30 : ∀ x y, 0 ≤ ent M x y ∧ ent M x y ≤ 30) :
    Calls Try.prog 50 #[.slice a n c] w fun e w' => ∃ u v, e = .returned (.tuple #[u, v]) ∧ TwoR w.heap.size w n w' u v (winsL n M) (worstL n M) := by
  have hmk : ∀ W : World, (Instr.makeSlice 23 (.int .i64 n) (.int .i64 n)).run Try.prog W = .ok (.slice (some ⟨W.heap.size, 0, none⟩) n n) (W.alloc (.cells (zeros n) 3)) := make_ints n (by omega)
  have HR := Lib.hid hr
  have HLM := Lib.hid hl
  have HB30 := Lib.hid hb30
  have HML := Lib.hid hr.1
  clear hr hl hb30
  go_enter Try.func50, Try.ntmps50
  go_upto_region 1 with fail
  go_cut [4, 5] (fun s4 s5 wx => TwoR w.heap.size w n wx s4 s5 (List.replicate n 0) (List.replicate n 0))
  case first =>
    go_region
    all_goals
      go_wp2_with fail
      go_meet
      first
        | exact (twoR_made w n (by omega) 1).1
        | exact (twoR_made w n (by omega) 1).2
  case rest =>
    obtain ⟨ga, gb, rfl, rfl, hne, oa, ob, hbel⟩ := hcut
    clear hmk
    rw [upL_zero n (fun x => winTo M x n)] at oa
    rw [upL_zero n (fun x => worstTo M x n)] at ob
    obtain ⟨b, o, rfl, hbB, hrows⟩ := HR.out.2 (by omega)
    have HROW : Hid (∀ x, x < n → ∃ bx ox cx, w.cell? ⟨b, o + x, none⟩ = some (.slice (some ⟨bx, ox, none⟩) n cx) ∧ bx < B ∧ ∀ y, y < n → w.cell? ⟨bx, ox + y, none⟩ = some (.int .i64 (ent M x y))) := fun x hx => by
      obtain ⟨a', c', h2, _, _, _, h5⟩ := hrows x hx
      have hxl : x < M.length := by rw [HML.out]; exact hx
      have hm : M.getD x [] ∈ M := by rw [List.getD_eq_getElem?_getD, List.getElem?_eq_getElem hxl]; exact List.getElem_mem hxl
      have hln := HLM.out _ hm
      rw [hln] at h2 h5
      obtain ⟨bx, ox, rfl, h6, h7⟩ := h5.2 (by omega)
      exact ⟨bx, ox, c', h2, h6, h7⟩
    clear hrows
    go_wp2_with fail
    go_loopw [17] (fun i wr => ∃ k : Nat, k ≤ n ∧ i = .int .i64 k ∧ wr.ownsRow w.heap.size 3 1 (.slice (some ⟨ga, 0, none⟩) n n) n (I (upL n (fun x => winTo M x n) k 0)) ∧ wr.ownsRow w.heap.size 3 1 (.slice (some ⟨gb, 0, none⟩) n n) n (I (upL n (fun x => worstTo M x n) k 0)) ∧ Below w.heap.size w wr) (fun i _ => n - (intOf i).toNat)
    case atStart => exact ⟨0, Nat.zero_le _, rfl, oa, ob, hbel⟩
    case round =>
      obtain ⟨k, hk, rfl, oa2, ob2, hbel2⟩ := hrel
      clear oa ob hbel
      by_cases hkn : k < n
      · go_wp2_with fail
        go_loopw [22] (fun i wr => ∃ j : Nat, j ≤ n ∧ i = .int .i64 j ∧ wr.ownsRow w.heap.size 3 1 (.slice (some ⟨ga, 0, none⟩) n n) n (I (upL n (fun x => winTo M x n) k (winTo M k j))) ∧ wr.ownsRow w.heap.size 3 1 (.slice (some ⟨gb, 0, none⟩) n n) n (I (upL n (fun x => worstTo M x n) k (worstTo M k j))) ∧ Below w.heap.size w wr) (fun i _ => n - (intOf i).toNat)
        case atStart => exact ⟨0, Nat.zero_le _, rfl, oa2, ob2, hbel2⟩
        case round =>
          obtain ⟨j, hj, rfl, oa3, ob3, hbel3⟩ := hrel
          clear oa2 ob2 hbel2
          by_cases hjn : j < n
          · obtain ⟨bx, ox, cx, hx1, hx2, hx3⟩ := HROW.out k hkn
            obtain ⟨by_, oy, cy, hy1, hy2, hy3⟩ := HROW.out j hjn
            have hz := hbel3.size
            have r1 : wr.cell? ⟨b, o + k, none⟩ = some (.slice (some ⟨bx, ox, none⟩) n cx) := (hbel3.cell (by show b < _; omega)).trans hx1
            have r2 : wr.cell? ⟨b, o + j, none⟩ = some (.slice (some ⟨by_, oy, none⟩) n cy) := (hbel3.cell (by show b < _; omega)).trans hy1
            have r3 : wr.cell? ⟨bx, ox + j, none⟩ = some (.int .i64 (ent M k j)) := (hbel3.cell (by show bx < _; omega)).trans (hx3 j hjn)
            have r4 : wr.cell? ⟨by_, oy + k, none⟩ = some (.int .i64 (ent M j k)) := (hbel3.cell (by show by_ < _; omega)).trans (hy3 k hkn)
            have e1 := HB30.out k j
            have e2 := HB30.out j k
            clear hx1 hx3 hy1 hy3
            have ca := own_cell oa3 k hkn
            have cb := own_cell ob3 k hkn
            rw [upL_at n _ _ hkn] at ca cb
            have fa := oa3.frozenAt k
            have fb := ob3.frozenAt k
            have hwb := winTo_bd M k j
            have HW : Hid (winTo M k (j + 1) = winTo M k j + sg (ent M k j - ent M j k)) := rfl
            have HV : Hid (worstTo M k (j + 1) = max (worstTo M k j) (-(ent M k j - ent M j k))) := rfl
            have hw0 := worstTo_nonneg M k j
            by_cases hd1 : 0 < ent M k j - ent M j k
            · have hwn : winTo M k j + 1 = winTo M k (j + 1) := by rw [HW.out]; unfold sg; rw [if_pos hd1]
              have hvn : worstTo M k j = worstTo M k (j + 1) := by rw [HV.out]; omega
              have hd2 : ¬ ent M k j - ent M j k < 0 := by omega
              obtain ⟨sa, gra⟩ := oa3.stored k (.int .i64 (winTo M k j + 1))
              have ea1 : (I (upL n (fun x => winTo M x n) k (winTo M k j))).set k (.int .i64 (winTo M k j + 1)) = I (upL n (fun x => winTo M x n) k (winTo M k (j + 1))) := by
                rw [hwn, ← upL_set n (fun x => winTo M x n) (winTo M k j) (winTo M k (j + 1)) hkn]; unfold I; rw [List.map_set]
              rw [ea1] at sa
              have sb := ob3.kept gra (.inr (by simp [Value.ownBlock]; omega))
              rw [hvn] at sb
              have hb4 := hbel3.grown gra hz (fun y hy => by injection hy with hy; have := (oa3.lt ga rfl).1; omega)
              clear ea1 gra oa3 ob3 hbel3 hwn hvn
              generalize ent M k j = ekj at *
              generalize ent M j k = ejk at *
              generalize winTo M k j = wn at *
              generalize worstTo M k j = ws at *
              go_wp2_with fail
              go_quiet (fail)
              go_wp2
              go_roundw
              case rel => exact ⟨j + 1, by omega, by go_num, own_drewN sa _, own_drewN sb _, below_drewN hb4 _⟩
              case measure => simp [intOf]; omega
            · by_cases hd2 : ent M k j - ent M j k < 0
              · have hwn : winTo M k j - 1 = winTo M k (j + 1) := by rw [HW.out]; unfold sg; rw [if_neg hd1, if_pos hd2]; omega
                obtain ⟨sa, gra⟩ := oa3.stored k (.int .i64 (winTo M k j - 1))
                have ea1 : (I (upL n (fun x => winTo M x n) k (winTo M k j))).set k (.int .i64 (winTo M k j - 1)) = I (upL n (fun x => winTo M x n) k (winTo M k (j + 1))) := by
                  rw [hwn, ← upL_set n (fun x => winTo M x n) (winTo M k j) (winTo M k (j + 1)) hkn]; unfold I; rw [List.map_set]
                rw [ea1] at sa
                have sb0 := ob3.kept gra (.inr (by simp [Value.ownBlock]; omega))
                have hb4 := hbel3.grown gra hz (fun y hy => by injection hy with hy; have := (oa3.lt ga rfl).1; omega)
                have cb2 : ∀ v, (wr.setCell ⟨ga, k, none⟩ v).cell? ⟨gb, k, none⟩ = some (.int .i64 (worstTo M k j)) := fun v => by
                  rw [World.cell?_of_block (Below.heap_setCell wr ⟨ga, k, none⟩ v gb (Ne.symm hne))]; exact cb
                have fb2 : ∀ v, (wr.setCell ⟨ga, k, none⟩ v).frozen? ⟨gb, k, none⟩ = false := fun v => by
                  rw [World.frozen?_of_block (Below.heap_setCell wr ⟨ga, k, none⟩ v gb (Ne.symm hne))]; exact fb
                obtain ⟨sb, grb⟩ := sb0.stored k (.int .i64 (if worstTo M k j < -(ent M k j - ent M j k) then -(ent M k j - ent M j k) else worstTo M k j))
                have hmv : (if worstTo M k j < -(ent M k j - ent M j k) then -(ent M k j - ent M j k) else worstTo M k j) = worstTo M k (j + 1) := by
                  rw [HV.out]; split <;> omega
                have eb1 : (I (upL n (fun x => worstTo M x n) k (worstTo M k j))).set k (.int .i64 (if worstTo M k j < -(ent M k j - ent M j k) then -(ent M k j - ent M j k) else worstTo M k j)) = I (upL n (fun x => worstTo M x n) k (worstTo M k (j + 1))) := by
                  rw [hmv, ← upL_set n (fun x => worstTo M x n) (worstTo M k j) (worstTo M k (j + 1)) hkn]; unfold I; rw [List.map_set]
                rw [eb1] at sb
                have sa2 := sa.kept grb (.inr (by simp [Value.ownBlock]; omega))
                have hb5 := hb4.grown grb hb4.size (fun y hy => by injection hy with hy; have := (sb0.lt gb rfl).1; omega)
                clear ea1 eb1 gra grb sa sb0 hb4 oa3 ob3 hbel3 hwn hmv
                generalize ent M k j = ekj at *
                generalize ent M j k = ejk at *
                generalize winTo M k j = wn at *
                generalize worstTo M k j = ws at *
                go_wp2_with fail
                go_quiet (fail)
                go_wp2
                go_roundw
                case rel => exact ⟨j + 1, by omega, by go_num, own_drewN sa2 _, own_drewN sb _, below_drewN hb5 _⟩
                case measure => simp [intOf]; omega
              · have hwn : winTo M k j = winTo M k (j + 1) := by rw [HW.out]; unfold sg; rw [if_neg hd1, if_neg hd2]; omega
                have hvn : worstTo M k j = worstTo M k (j + 1) := by rw [HV.out]; omega
                rw [hwn] at oa3
                rw [hvn] at ob3
                clear hwn hvn
                generalize ent M k j = ekj at *
                generalize ent M j k = ejk at *
                go_wp2_with fail
                go_quiet (fail)
                go_wp2
                go_roundw
                case rel => exact ⟨j + 1, by omega, by go_num, own_drewN oa3 _, own_drewN ob3 _, below_drewN hbel3 _⟩
                case measure => simp [intOf]; omega
          · obtain rfl : j = n := by omega
            rw [upL_next _ (fun x => winTo M x j) k] at oa3
            rw [upL_next _ (fun x => worstTo M x j) k] at ob3
            go_wp2
            go_roundw
            case rel => exact ⟨k + 1, by omega, by go_num, oa3, ob3, hbel3⟩
            case measure => simp [intOf]; omega
      · obtain rfl : k = n := by omega
        rw [upL_end] at oa2 ob2
        go_wp2
        go_ret2
        exact ⟨_, _, rfl, ga, gb, rfl, rfl, hne, oa2, ob2, hbel2⟩
end Go.Proofs.Ytbpenheomiejfaa

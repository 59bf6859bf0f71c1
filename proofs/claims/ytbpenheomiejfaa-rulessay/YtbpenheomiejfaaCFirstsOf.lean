/-
  plumeref.FirstsOf at votes: it returns the first places and the points; nothing that was there is written.
-/
import Derived.Test.YtbpenheomiejfaaCPlaces
import Derived.Test.YtbpenheomiejfaaPureA
import Derived.BigQuiet
import Derived.BigRegion
import Derived.RegionTactic
import Derived.Deep.QuietTactic
import Derived.Deep.DeepCutAuto
import Derived.WalkKit
import Derived.KernelRfl
import Derived.Laws.NewBlocks
namespace Go.Proofs.Ytbpenheomiejfaa
open Go.RowKit Fm
set_option linter.unusedVariables false

/-- Two rows of the call's own, apart. -/
def TwoRows (B : Nat) (w : World) (n : Nat) (wx : World) (s t : Value) (l m : List Int) : Prop :=
  ∃ ga gb, s = .slice (some ⟨ga, 0, none⟩) n n ∧ t = .slice (some ⟨gb, 0, none⟩) n n ∧ ga ≠ gb ∧ wx.ownsRow B 3 1 (.slice (some ⟨ga, 0, none⟩) n n) n (I l) ∧ wx.ownsRow B 3 1 (.slice (some ⟨gb, 0, none⟩) n n) n (I m) ∧ Below B w wx

theorem two_made (w : World) (n : Nat) (hn : n ≤ 1000000) (k : Nat) :
    TwoRows w.heap.size w n (((w.alloc (.cells (zeros n) 3)).alloc (.cells (zeros n) 3)).drewN k) (.slice (some ⟨w.heap.size, 0, none⟩) n n) (.slice (some ⟨w.heap.size + 1, 0, none⟩) n n) (List.replicate n 0) (List.replicate n 0) ∧
    TwoRows w.heap.size w n (((w.alloc (.cells (zeros n) 3)).alloc (.cells (zeros n) 3)).drewN k) (.slice (some ⟨w.heap.size + 1, 0, none⟩) n n) (.slice (some ⟨w.heap.size, 0, none⟩) n n) (List.replicate n 0) (List.replicate n 0) := by
  have h1 := own_lit w 3 (List.replicate n 0) (zeros n) rfl (by unfold maxLen; simp; omega)
  have h2 := own_lit (w.alloc (.cells (zeros n) 3)) 3 (List.replicate n 0) (zeros n) rfl (by unfold maxLen; simp; omega)
  rw [List.length_replicate] at h1 h2
  have e : (w.alloc (.cells (zeros n) 3)).heap.size = w.heap.size + 1 := by simp
  rw [e] at h2
  have h1' := h1.alloc (.cells (zeros n) 3)
  have h2' := own_mono h2 (Nat.le_succ w.heap.size)
  have hb : Below w.heap.size w ((w.alloc (.cells (zeros n) 3)).alloc (.cells (zeros n) 3)) := ((Below.refl _ w).alloc (Nat.le_refl _) _).alloc (by simp) _
  exact ⟨⟨_, _, rfl, rfl, by omega, own_drewN h1' k, own_drewN h2' k, below_drewN hb k⟩, ⟨_, _, rfl, rfl, by omega, own_drewN h2' k, own_drewN h1' k, below_drewN hb k⟩⟩

set_option maxHeartbeats 4000000 in
set_option maxRecDepth 100000 in
theorem firstsOf_any {n : Nat} (h1 : 1 ≤ n) (h6 : n ≤ 6) (a : Option Addr) (c : Nat) (V : List (List Int)) (w : World) (B : Nat) (hB : B ≤ w.heap.size) (hr : RdR w B a V.length V) (hV : V.length ≤ 30) (hp : ∀ p ∈ V, p.Perm (sides n)) :
    Calls Try.prog 49 #[.int .i64 n, .slice a V.length c] w fun e w' => ∃ u v, e = .returned (.tuple #[u, v]) ∧ TwoRows w.heap.size w n w' u v (firstsL n V) (pointsL n V) := by
  have hmk : ∀ W : World, (Instr.makeSlice 23 (.int .i64 n) (.int .i64 n)).run Try.prog W = .ok (.slice (some ⟨W.heap.size, 0, none⟩) n n) (W.alloc (.cells (zeros n) 3)) := make_ints n (by omega)
  have HR := Lib.hid hr
  have HP := Lib.hid hp
  clear hr hp
  go_enter Try.func49, Try.ntmps49
  go_upto_region 1 with fail
  go_cut [6, 7] (fun s6 s7 wx => TwoRows w.heap.size w n wx s6 s7 (List.replicate n 0) (List.replicate n 0))
  case first =>
    go_region
    all_goals
      go_wp2_with fail
      go_meet
      first
        | exact (two_made w n (by omega) 1).1
        | exact (two_made w n (by omega) 1).2
  case rest =>
    obtain ⟨ga, gb, rfl, rfl, hne, oa, ob, hbel⟩ := hcut
    clear hmk
    have hz0 : List.replicate n (0 : Int) = firstsL n ([] : List (List Int)) := by
      unfold firstsL
      apply List.ext_getElem
      · simp [sides_len]
      · intro i h1 h2; simp [fst1]
    have hz1 : List.replicate n (0 : Int) = pointsL n ([] : List (List Int)) := by
      unfold pointsL
      apply List.ext_getElem
      · simp [sides_len]
      · intro i h1 h2; simp [pts]
    rw [hz0] at oa
    rw [hz1] at ob
    clear hz0 hz1
    go_wp2_with fail
    go_loopw [18] (fun i wr => ∃ t : Nat, t ≤ V.length ∧ i = .int .i64 t ∧ wr.ownsRow w.heap.size 3 1 (.slice (some ⟨ga, 0, none⟩) n n) n (I (firstsL n (V.take t))) ∧ wr.ownsRow w.heap.size 3 1 (.slice (some ⟨gb, 0, none⟩) n n) n (I (pointsL n (V.take t))) ∧ Below w.heap.size w wr) (fun i _ => V.length - (intOf i).toNat)
    case atStart => exact ⟨0, Nat.zero_le _, rfl, oa, ob, hbel⟩
    case round =>
      obtain ⟨t, ht, rfl, oa2, ob2, hbel2⟩ := hrel
      clear oa ob hbel
      have hz2 := hbel2.size
      by_cases htl : t < V.length
      · obtain ⟨b, o, a', c', rfl, hb, hcell, _, _, _, hrd⟩ := HR.out.at_ htl
        have hmem : V.getD t [] ∈ V := by rw [List.getD_eq_getElem?_getD, List.getElem?_eq_getElem htl]; exact List.getElem_mem htl
        have hperm := HP.out _ hmem
        have hpl : (V.getD t []).length = n := by have := hperm.length_eq; rwa [sides_len] at this
        have hct : wr.cell? ⟨b, o + t, none⟩ = some (.slice a' n c') := by
          rw [(hbel2.cell (by show b < _; omega)), hcell, hpl]
        have RD := Lib.hid (hrd.below hbel2 hB)
        rw [hpl] at RD
        have hsn : V.take (t + 1) = V.take t ++ [V.getD t []] := by
          rw [List.take_succ_eq_append_getElem htl, List.getD_eq_getElem?_getD, List.getElem?_eq_getElem htl]; rfl
        have HPM := Lib.hid hperm
        have HSN := Lib.hid hsn
        have HPT : Hid (∀ x : Nat, x < n → 0 ≤ pts n (V.take t) x ∧ pts n (V.take t) x ≤ (V.take t).length * n) := fun x hx => pts_range (fun q hq => HP.out q (List.mem_of_mem_take hq)) hx
        have hvl : (V.take t).length ≤ 30 := by rw [List.length_take]; omega
        clear hsn hcell hrd hmem hperm hpl
        generalize V.getD t [] = p at *
        generalize V.take t = W at *
        go_wp2_with fail
        refine (places2_any HPM.out h1 h6 a' c' wr B (by omega) RD.out).mono ?_
        rintro e w6 ⟨rfl, o6, hb6⟩
        have z6 := hb6.size
        have oa6 := own_below oa2 hb6 (Nat.le_refl _)
        have ob6 := own_below ob2 hb6 (Nat.le_refl _)
        have hbel6 := hbel2.trans (hb6.mono hz2)
        have hga := (oa2.lt ga rfl).2
        have hgb := (ob2.lt gb rfl).2
        have ea : firstsL n W = mixL n (fun x => (fst1 W x : Int)) (fun x => (fst1 (W ++ [p]) x : Int)) 0 := (mixL_zero n _ _).symm
        have eb : pointsL n W = mixL n (fun x => pts n W x) (fun x => pts n (W ++ [p]) x) 0 := (mixL_zero n _ _).symm
        rw [ea] at oa6
        rw [eb] at ob6
        clear oa2 ob2 hbel2 hb6 hct ea eb RD
        go_wp2_with fail
        generalize wr.heap.size = H6 at *
        go_loopw [25] (fun i wq => ∃ j : Nat, j ≤ n ∧ i = .int .i64 j ∧ wq.ownsRow w.heap.size 3 1 (.slice (some ⟨ga, 0, none⟩) n n) n (I (mixL n (fun x => (fst1 W x : Int)) (fun x => (fst1 (W ++ [p]) x : Int)) j)) ∧ wq.ownsRow w.heap.size 3 1 (.slice (some ⟨gb, 0, none⟩) n n) n (I (mixL n (fun x => pts n W x) (fun x => pts n (W ++ [p]) x) j)) ∧
          wq.ownsRow H6 3 1 (.slice (some ⟨H6, 0, none⟩) n n) n (I ((sides n).map (pos p))) ∧ Below w.heap.size w wq) (fun i _ => n - (intOf i).toNat)
        case atStart => exact ⟨0, Nat.zero_le _, rfl, oa6, ob6, o6, hbel6⟩
        case round =>
          obtain ⟨j, hj, rfl, oa7, ob7, o7, hbel7⟩ := hrel
          clear oa6 ob6 o6 hbel6
          by_cases hjn : j < n
          · have cp := own_cell o7 j hjn
            have ca := own_cell oa7 j hjn
            have cb := own_cell ob7 j hjn
            rw [map_sides_getD n _ hjn] at cp
            rw [mixL_at n _ _ hjn] at ca cb
            have fa := oa7.frozenAt j
            have fb := ob7.frozenAt j
            have hpr := pos_range HPM.out hjn
            have hpt := HPT.out j hjn
            have hpt2 : ((W.length : Int)) * n ≤ 30 * 6 := Int.mul_le_mul (by omega) (by omega) (by omega) (by omega)
            have hpt3 : pts n W j ≤ 180 := by omega
            have hf1 := fst1_le W j
            have hgabI : ga ≠ gb := hne
            have ca2 : ∀ v, (wr.setCell ⟨gb, j, none⟩ v).cell? ⟨ga, j, none⟩ = some (.int .i64 (fst1 W j)) := fun v => by
              rw [World.cell?_of_block (Below.heap_setCell wr ⟨gb, j, none⟩ v ga hgabI)]; exact ca
            have fa2 : ∀ v, (wr.setCell ⟨gb, j, none⟩ v).frozen? ⟨ga, j, none⟩ = false := fun v => by
              rw [World.frozen?_of_block (Below.heap_setCell wr ⟨gb, j, none⟩ v ga hgabI)]; exact fa
            have hpv : pts n W j + ((n : Int) - 1 - pos p j) = pts n (W ++ [p]) j := (pts_snoc n W p j).symm
            obtain ⟨sb, gb1⟩ := ob7.stored j (.int .i64 (pts n W j + ((n : Int) - 1 - pos p j)))
            have eb1 : (I (mixL n (fun x => pts n W x) (fun x => pts n (W ++ [p]) x) j)).set j (.int .i64 (pts n W j + ((n : Int) - 1 - pos p j))) = I (mixL n (fun x => pts n W x) (fun x => pts n (W ++ [p]) x) (j + 1)) := by
              rw [hpv, ← mixL_set n _ _ hjn]; unfold I; rw [List.map_set]
            rw [eb1] at sb
            have sa := oa7.kept gb1 (.inr (by simp [Value.ownBlock]; exact hne))
            have sp := o7.kept gb1 (.inr (by simp [Value.ownBlock]; omega))
            have hb8 := hbel7.grown gb1 hbel7.size (fun y hy => by injection hy with hy; have := (ob7.lt gb rfl).1; omega)
            have HPV := Lib.hid hpv
            clear eb1 gb1 oa7 ob7 o7 hbel7 hpv
            by_cases h0 : pos p j = 0
            · have hfv : fst1 (W ++ [p]) j = fst1 W j + 1 := by rw [fst1_snoc, if_pos h0]
              obtain ⟨sa1, ga1⟩ := sa.stored j (.int .i64 (((fst1 W j : Nat) : Int) + 1))
              have ea1 : (I (mixL n (fun x => (fst1 W x : Int)) (fun x => (fst1 (W ++ [p]) x : Int)) j)).set j (.int .i64 (((fst1 W j : Nat) : Int) + 1)) = I (mixL n (fun x => (fst1 W x : Int)) (fun x => (fst1 (W ++ [p]) x : Int)) (j + 1)) := by
                rw [← mixL_set n _ _ hjn]
                show _ = I (((mixL n _ _ j)).set j ((fst1 (W ++ [p]) j : Nat) : Int))
                rw [hfv]; unfold I; rw [List.map_set]; rfl
              rw [ea1] at sa1
              have sb1 := sb.kept ga1 (.inr (by simp [Value.ownBlock]; omega))
              have sp1 := sp.kept ga1 (.inr (by simp [Value.ownBlock]; omega))
              have hb9 := hb8.grown ga1 hb8.size (fun y hy => by injection hy with hy; have := (sa.lt ga rfl).1; omega)
              have h0b : (pos p j == 0) = true := by simpa using h0
              clear ea1 ga1 sa sb sp hb8 hfv h0
              generalize pos p j = pj at *
              generalize pts n W j = pt at *
              generalize fst1 W j = f1 at *
              go_wp2
              go_roundw
              case rel => exact ⟨j + 1, by omega, by go_num, sa1, sb1, sp1, hb9⟩
              case measure => simp [intOf]; omega
            · have hfv : ((fst1 W j : Nat) : Int) = ((fst1 (W ++ [p]) j : Nat) : Int) := by rw [fst1_snoc, if_neg h0]; simp
              rw [mixL_same n (fun x => (fst1 W x : Int)) (fun x => (fst1 (W ++ [p]) x : Int)) hfv] at sa
              have h0b : (pos p j == 0) = false := by simpa using h0
              clear hfv h0
              generalize pos p j = pj at *
              generalize pts n W j = pt at *
              generalize fst1 W j = f1 at *
              go_wp2
              go_roundw
              case rel => exact ⟨j + 1, by omega, by go_num, sa, sb, sp, hb8⟩
              case measure => simp [intOf]; omega
          · obtain rfl : j = n := by omega
            rw [mixL_end] at oa7 ob7
            go_wp2
            go_roundw
            case rel => exact ⟨t + 1, by omega, by go_num, by rw [HSN.out]; exact oa7, by rw [HSN.out]; exact ob7, hbel7⟩
            case measure => simp [intOf]; omega
      · obtain rfl : t = V.length := by omega
        rw [List.take_of_length_le (Nat.le_refl _)] at oa2 ob2
        go_wp2
        go_ret2
        exact ⟨_, _, rfl, ga, gb, rfl, rfl, hne, oa2, ob2, hbel2⟩
end Go.Proofs.Ytbpenheomiejfaa

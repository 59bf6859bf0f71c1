/-
  plumeref.RoundsOf at votes returns who is left at the end; nothing that was there is written.
-/
import Derived.Test.YtbpenheomiejfaaCGreatest
import Derived.Test.YtbpenheomiejfaaCDelF
import Derived.Test.YtbpenheomiejfaaCClone
import Derived.Test.YtbpenheomiejfaaCSides
import Derived.Test.YtbpenheomiejfaaPureA
import Derived.Test.YtbpenheomiejfaaOuts
namespace Go.Proofs.Ytbpenheomiejfaa
open Go.RowKit Fm
set_option linter.unusedVariables false

set_option maxHeartbeats 400000 in
set_option maxRecDepth 100000 in
theorem rounds1_any (x : Int) (left : List Int) (gl m cl g : Nat) (w : World) (B : Nat) (hr : Rd w B (some ⟨gl, 0, none⟩) m left) (hm : m ≤ 1000000) (hg : w.cell? ⟨g, 0, none⟩ = some (.slice (some ⟨gl, 0, none⟩) m cl)) :
    Calls Try.prog 78 #[.int .i64 x, .pointer (some ⟨g, 0, none⟩)] w fun e w' => e = .returned (.bool (!decide (x ∈ left))) ∧ Below w.heap.size w w' := by
  have HR := Lib.hid (contains_any left x (some ⟨gl, 0, none⟩) m cl w B hr (by omega))
  clear hr
  generalize decide (x ∈ left) = r at *
  go_enter Try.func78, Try.ntmps78
  go_wp2_with fail
  refine HR.out.mono ?_
  rintro e w' ⟨rfl, rfl⟩
  clear hg HR
  go_wp2
  go_ret
  exact ⟨rfl, Below.refl _ w⟩
set_option maxHeartbeats 400000 in
set_option maxRecDepth 100000 in
theorem rounds2_any (x y : Int) (g : Nat) (w : World) (hg : w.cell? ⟨g, 0, none⟩ = some (.int .i64 y)) :
    Calls Try.prog 79 #[.int .i64 x, .pointer (some ⟨g, 0, none⟩)] w fun e w' => e = .returned (.bool (x == y)) ∧ Below w.heap.size w w' := by
  go_enter Try.func79, Try.ntmps79
  go_wp2
  go_ret
  exact ⟨rfl, Below.refl _ w⟩

theorem cell_box {w : World} {B : Nat} {t : TypeId} {g : Nat} {v : Value} (h : w.ownsRow B t 1 (.slice (some ⟨g, 0, none⟩) 1 1) 1 [v]) : w.cell? ⟨g, 0, none⟩ = some v := by
  have := h.cellAt 0 (by omega)
  simpa using this
/-- How many the boxed slice has. -/
def lenAt (w : World) (g : Nat) : Nat := match w.cell? ⟨g, 0, none⟩ with | some (.slice _ n _) => n | _ => 0

set_option maxHeartbeats 4000000 in
set_option maxRecDepth 100000 in
theorem roundsOf_any {n : Nat} (h1 : 1 ≤ n) (h6 : n ≤ 6) (a : Option Addr) (c : Nat) (V : List (List Int)) (w : World) (B : Nat) (hB : B ≤ w.heap.size) (hr : RdR w B a V.length V) (hV : V.length ≤ 30) (hp : ∀ p ∈ V, p.Perm (sides n)) :
    Calls Try.prog 53 #[.int .i64 n, .slice a V.length c] w fun e w' => e = .returned (.int .i64 (lastOf n V)) ∧ Below w.heap.size w w' := by
  have HR := Lib.hid hr
  have HP := Lib.hid hp
  clear hr hp
  obtain ⟨res, hres⟩ : ∃ res, lastOf n V = res := ⟨_, rfl⟩
  rw [hres]
  have HRES := Lib.hid hres
  clear hres
  go_enter Try.func53, Try.ntmps53
  go_wp2_with fail
  refine (sides_any n w (by omega)).mono ?_
  rintro e w1 ⟨v1, rfl, o1, hb1⟩
  obtain ⟨gl, cl, rfl, hgl1, hgl2, hgl3, hgl4, _⟩ := own_form o1 (by omega)
  have hz1 := hb1.size
  have hbx := own_box w1 23 (.slice (some ⟨gl, 0, none⟩) n cl)
  have hba : Below w1.heap.size w1 (w1.alloc (.cells #[.slice (some ⟨gl, 0, none⟩) n cl] 23)) := (Below.refl _ w1).alloc (Nat.le_refl _) _
  have HBX := Lib.hid (own_mono hbx hz1)
  have HO1 := Lib.hid (own_below o1 hba (Nat.le_refl _))
  have HB1 := Lib.hid (ext_trans hb1 hba)
  clear o1 hb1 hbx hba
  go_wp2_with fail
  obtain ⟨g5, hg5⟩ : ∃ g5, g5 = w1.heap.size := ⟨_, rfl⟩
  have hgne : gl ≠ g5 := by omega
  rw [← hg5] at HBX ⊢
  generalize w1.alloc (.cells #[.slice (some ⟨gl, 0, none⟩) n cl] 23) = w2 at *
  clear hg5 hgl2
  go_loopw [7] (fun _ wr => ∃ j : Nat, j ≤ n - 1 ∧ wr.ownsRow w.heap.size 23 1 (.slice (some ⟨g5, 0, none⟩) 1 1) 1 [.slice (some ⟨gl, 0, none⟩) (n - j) cl] ∧ wr.ownsRow w.heap.size 3 1 (.slice (some ⟨gl, 0, none⟩) (n - j) cl) (n - j) (I (leftTo V n j)) ∧ Below w.heap.size w wr) (fun _ wr => lenAt wr g5)
  case atStart => exact ⟨0, Nat.zero_le _, HBX.out, HO1.out, HB1.out⟩
  case round =>
    clear HBX HO1 HB1
    obtain ⟨j, hj, bx, ol, hbel⟩ := hrel
    have hz := hbel.size
    have cbx := cell_box bx
    have LO := Lib.hid (left_ok V n h1 j hj)
    have HLA : Hid (lenAt wr g5 = n - j) := by show _ = _; unfold lenAt; rw [cbx]
    by_cases hmore : j < n - 1
    · have hgt : (1 : Int) < (((n - j : Nat) : Nat) : Int) := by omega
      have HBX := Lib.hid bx
      have HOL := Lib.hid ol
      have HBL := Lib.hid hbel
      have hlw : gl < wr.heap.size := (ol.lt gl rfl).2
      have hgw : g5 < wr.heap.size := (bx.lt g5 rfl).2
      have cbx2 : ∀ ob, (wr.alloc ob).cell? ⟨g5, 0, none⟩ = some (.slice (some ⟨gl, 0, none⟩) (n - j) cl) := fun ob => (World.cell?_alloc_lt wr ob ⟨g5, 0, none⟩ hgw).trans cbx
      have hnj : 0 < n - j := by omega
      obtain ⟨nl, hnl⟩ : ∃ nl, n - j = nl := ⟨_, rfl⟩
      have hnl6 : nl ≤ 6 := by omega
      rw [hnl] at hgt HBX HOL cbx hnj HLA
      simp only [hnl] at cbx2
      obtain ⟨left, hleft⟩ : ∃ left, leftTo V n j = left := ⟨_, rfl⟩
      rw [hleft] at HOL LO
      have HLEFT := Lib.hid hleft
      have HNL := Lib.hid hnl
      have hb6 := own_box wr 3 (.int .i64 (-1))
      have hba : Below wr.heap.size wr (wr.alloc (.cells #[.int .i64 (-1)] 3)) := (Below.refl _ wr).alloc (Nat.le_refl _) _
      have HB6 := Lib.hid (own_mono hb6 hz)
      have HBX2 := Lib.hid (own_below HBX.out hba (Nat.le_refl _))
      have HOL2 := Lib.hid (own_below HOL.out hba (Nat.le_refl _))
      have HBL2 := Lib.hid (ext_trans HBL.out hba)
      clear bx ol hbel hleft hnl hb6 hba
      obtain ⟨wo, rfl⟩ : ∃ wo, wo = wr := ⟨_, rfl⟩
      go_wp2_with fail
      clear cbx cbx2
      obtain ⟨g6, hg6⟩ : ∃ g6, g6 = wo.heap.size := ⟨_, rfl⟩
      have hne6 : gl ≠ g6 := by omega
      have hne56 : g5 ≠ g6 := by omega
      rw [← hg6] at HB6 ⊢
      generalize wo.alloc (.cells #[.int .i64 (-1)] 3) = w3 at *
      clear hg6 hlw hgw
      go_loopw [7, 21] (fun lv iv wr => ∃ i : Nat, i ≤ nl ∧ iv = .int .i64 i ∧ lv = .int .i64 (outTo V left i).2 ∧ wr.ownsRow w.heap.size 3 1 (.slice (some ⟨g6, 0, none⟩) 1 1) 1 [.int .i64 (outTo V left i).1] ∧
        wr.ownsRow w.heap.size 23 1 (.slice (some ⟨g5, 0, none⟩) 1 1) 1 [.slice (some ⟨gl, 0, none⟩) nl cl] ∧ wr.ownsRow w.heap.size 3 1 (.slice (some ⟨gl, 0, none⟩) nl cl) nl (I left) ∧ Below w.heap.size w wr) (fun _ iv _ => nl - (intOf iv).toNat)
      case atStart => exact ⟨0, Nat.zero_le _, rfl, rfl, HB6.out, HBX2.out, HOL2.out, HBL2.out⟩
      case round =>
        clear HB6 HBX2 HOL2 HBL2
        obtain ⟨i, hi, rfl, rfl, b6, b5, ol, hbel⟩ := hrel
        have H6 := Lib.hid b6
        have H5 := Lib.hid b5
        have HL := Lib.hid ol
        have HB := Lib.hid hbel
        have c6 := cell_box b6
        have c5 := cell_box b5
        by_cases hin : i < nl
        · have ci := own_cell ol i hin
          have HOT : Hid (outTo V left (i + 1) = if (outTo V left i).1 < 0 ∨ (tops V left (left.getD i 0) : Int) ≤ (outTo V left i).2 then (left.getD i 0, (tops V left (left.getD i 0) : Int)) else outTo V left i) := by show _ = _; rw [outTo]
          have hbd := outTo_bd V left i
          have htl := tops_le V left (left.getD i 0)
          clear b6 b5 ol hbel
          generalize (outTo V left i) = oi at *
          generalize left.getD i 0 = x at *
          obtain ⟨wq, rfl⟩ : ∃ wq, wq = wr := ⟨_, rfl⟩
          go_wp2_with fail
          clear ci
          go_loopw [10, 27] (fun kv tv wr => ∃ t : Nat, t ≤ V.length ∧ tv = .int .i64 t ∧ kv = .int .i64 ((tops (V.take t) left x : Nat) : Int) ∧ Below wq.heap.size wq wr) (fun _ tv _ => V.length - (intOf tv).toNat)
          case atStart => exact ⟨0, Nat.zero_le _, rfl, by simp [tops], Below.refl _ wq⟩
          case round =>
            obtain ⟨t, ht, rfl, rfl, hbq⟩ := hrel
            by_cases htl2 : t < V.length
            · have hall : Below w.heap.size w wr := ext_trans HB.out hbq
              have hzr := hall.size
              obtain ⟨b, o, a', c', rfl, hb, hcell, _, _, _, hrd⟩ := HR.out.at_ htl2
              have hmem : V.getD t [] ∈ V := by rw [List.getD_eq_getElem?_getD, List.getElem?_eq_getElem htl2]; exact List.getElem_mem htl2
              have hperm := HP.out _ hmem
              have hpl : (V.getD t []).length = n := by have := hperm.length_eq; rwa [sides_len] at this
              have hct : wr.cell? ⟨b, o + t, none⟩ = some (.slice a' n c') := by rw [(hall.cell (by show b < _; omega)), hcell, hpl]
              rw [hpl] at hrd
              have RD := Lib.hid (hrd.below hall hB)
              have HTS := Lib.hid (tops_succ V left x htl2)
              have hop := only_pos LO.out (by omega) hperm
              have htb := tops_le (V.take t) left x
              have htb2 : (V.take t).length ≤ 30 := by rw [List.length_take]; omega
              clear hcell hrd hmem hperm hpl
              generalize V.getD t [] = p at *
              generalize tops (V.take t) left x = kk at *
              go_wp2_with fail
              refine (clone_any p a' n c' wr B RD.out (by omega)).mono ?_
              rintro e w4 ⟨v4, rfl, o4, hb4⟩
              obtain ⟨g4, cap4, rfl, hg4a, hg4b, hg4c, hg4d, _⟩ := own_form o4 (by omega)
              have hbq4 := ext_trans hbq hb4
              have hl4 := own_below HL.out hbq4 (Nat.le_refl _)
              have h54 := own_below H5.out hbq4 (Nat.le_refl _)
              have hgl4 : gl < wr.heap.size := Nat.lt_of_lt_of_le (HL.out.lt gl rfl).2 hbq.size
              have hg54 : g5 < wr.heap.size := Nat.lt_of_lt_of_le (H5.out.lt g5 rfl).2 hbq.size
              have hTG : TellsG 78 #[.pointer (some ⟨g5, 0, none⟩)] p (fun y => !decide (y ∈ left)) w4 g4 := fun y hy w6 hgr => by
                have l6 := hl4.kept hgr (.inr (by simp [Value.ownBlock]; omega))
                have b6' := h54.kept hgr (.inr (by simp [Value.ownBlock]; omega))
                exact rounds1_any y left gl nl cl g5 w6 w6.heap.size (Rd.of_own l6) (by omega) (cell_box b6')
              have HDF := Lib.hid (deleteFuncI_any 78 (fun _ _ => rfl) #[.pointer (some ⟨g5, 0, none⟩)] (fun y => !decide (y ∈ left)) wr.heap.size g4 n cap4 p w4 o4 (by omega) hTG)
              have e4 : p.filter (fun y => !(!decide (y ∈ left))) = onlyIn left p := by unfold onlyIn; congr 1; funext y; simp
              rw [e4] at HDF
              clear hTG hl4 h54 o4 e4 hct
              go_wp2_with fail
              refine HDF.out.mono ?_
              rintro e w5 ⟨m5, rfl, hm5, o5, gr5⟩
              have hml := own_len o5
              have hbq5 : Below wq.heap.size wq w5 := hbq.trans (((hb4.grown gr5 hb4.size (fun y hy => by injection hy with hy; omega))).mono hbq.size)
              have c5' := own_cell o5 0 (by omega)
              have hm5i : (0 : Int) < (m5 : Int) := by omega
              clear HDF o5 gr5 hb4 hbq hbq4 hml hop
              generalize (onlyIn left p).getD 0 0 = q0 at *
              by_cases hq : q0 = x
              · have hqb : (q0 == x) = true := by simpa using hq
                rw [if_pos hq] at HTS
                clear hq
                go_wp2
                go_roundw
                case rel => exact ⟨t + 1, by omega, by go_num, by rw [HTS.out]; rfl, hbq5⟩
                case measure => simp [intOf]; omega
              · have hqb : (q0 == x) = false := by simpa using hq
                rw [if_neg hq, Nat.add_zero] at HTS
                clear hq
                go_wp2
                go_roundw
                case rel => exact ⟨t + 1, by omega, by go_num, by rw [HTS.out]; rfl, hbq5⟩
                case measure => simp [intOf]; omega
            · obtain rfl : t = V.length := by omega
              have e1 : V.take V.length = V := List.take_of_length_le (Nat.le_refl _)
              rw [e1]
              clear e1
              have b6q := own_below H6.out hbq (Nat.le_refl _)
              have b5q := own_below H5.out hbq (Nat.le_refl _)
              have olq := own_below HL.out hbq (Nat.le_refl _)
              have hbw := ext_trans HB.out hbq
              have c6q := cell_box b6q
              have f6q : wr.frozen? ⟨g6, 0, none⟩ = false := b6q.frozenAt 0
              clear hbq c6 c5
              generalize tops V left x = kx at *
              by_cases hc : oi.1 < 0 ∨ (kx : Int) ≤ oi.2
              · rw [if_pos hc] at HOT
                obtain ⟨s6, gr6⟩ := b6q.stored 0 (.int .i64 x)
                have s5 := b5q.kept gr6 (.inr (by simp [Value.ownBlock]; omega))
                have sl := olq.kept gr6 (.inr (by simp [Value.ownBlock]; omega))
                have hbe := hbw.grown gr6 hbw.size (fun y hy => by injection hy with hy; subst hy; exact (b6q.lt g6 rfl).1)
                have e6 : [Value.int .i64 oi.1].set 0 (.int .i64 x) = [.int .i64 x] := rfl
                rw [e6] at s6
                clear gr6 b6q b5q olq hbw e6
                by_cases hneg : oi.1 < 0
                · clear hc
                  obtain ⟨o1, o2⟩ := oi
                  simp only at *
                  go_wp2
                  go_roundw
                  case rel => exact ⟨i + 1, by omega, by go_num, by rw [HOT.out], by rw [HOT.out]; exact s6, s5, sl, hbe⟩
                  case measure => simp [intOf]; omega
                · have hle : (kx : Int) ≤ oi.2 := by omega
                  clear hc
                  obtain ⟨o1, o2⟩ := oi
                  simp only at *
                  go_wp2
                  go_roundw
                  case rel => exact ⟨i + 1, by omega, by go_num, by rw [HOT.out], by rw [HOT.out]; exact s6, s5, sl, hbe⟩
                  case measure => simp [intOf]; omega
              · rw [if_neg hc] at HOT
                have hn1 : ¬ oi.1 < 0 := fun h => hc (.inl h)
                have hn2 : ¬ (kx : Int) ≤ oi.2 := fun h => hc (.inr h)
                clear hc
                obtain ⟨o1, o2⟩ := oi
                simp only at *
                go_wp2
                go_roundw
                case rel => exact ⟨i + 1, by omega, by go_num, by rw [HOT.out], by rw [HOT.out]; exact b6q, b5q, olq, hbw⟩
                case measure => simp [intOf]; omega
        · obtain rfl : i = nl := by omega
          have hll := LO.out.len
          have HOO : Hid ((outTo V left i).1 = outOf V left) := by show _ = _; unfold outOf; rw [hll, HNL.out]
          rw [HOO.out] at b6 c6
          have hLN : leftTo V n (j + 1) = left.filter fun x => !(x == outOf V left) := by rw [leftTo, HLEFT.out]
          have HLN := Lib.hid hLN
          have LO2 := Lib.hid (left_ok V n h1 (j + 1) (by omega))
          have hTG : TellsG 79 #[.pointer (some ⟨g6, 0, none⟩)] left (fun x => x == outOf V left) wr gl := fun y hy w6 hgr => by
            have b6' := b6.kept hgr (.inr (by simp [Value.ownBlock]; omega))
            exact rounds2_any y (outOf V left) g6 w6 (cell_box b6')
          have HDF := Lib.hid (deleteFuncI_any 79 (fun _ _ => rfl) #[.pointer (some ⟨g6, 0, none⟩)] (fun x => x == outOf V left) w.heap.size gl i cl left wr ol (by omega) hTG)
          rw [← hLN] at HDF
          clear hTG hll hLN b6 c6 H6
          go_wp2_with fail
          refine HDF.out.mono ?_
          rintro e w5 ⟨m5, rfl, hm5, o5, gr5⟩
          have hml := own_len o5
          rw [LO2.out.len] at hml
          have b5' := b5.kept gr5 (.inr (by simp [Value.ownBlock]; omega))
          have hb5' := hbel.grown gr5 hbel.size (fun y hy => by injection hy with hy; subst hy; exact (ol.lt gl rfl).1)
          have c5' := cell_box b5'
          have f5' : w5.frozen? ⟨g5, 0, none⟩ = false := b5'.frozenAt 0
          obtain ⟨s5, gr6⟩ := b5'.stored 0 (.slice (some ⟨gl, 0, none⟩) m5 cl)
          have sl := o5.kept gr6 (.inr (by simp [Value.ownBlock]; omega))
          have hbe := hb5'.grown gr6 hb5'.size (fun y hy => by injection hy with hy; subst hy; exact (b5'.lt g5 rfl).1)
          have e5 : [Value.slice (some ⟨gl, 0, none⟩) i cl].set 0 (.slice (some ⟨gl, 0, none⟩) m5 cl) = [.slice (some ⟨gl, 0, none⟩) m5 cl] := rfl
          rw [e5] at s5
          have HLA2 : Hid (lenAt (w5.setCell ⟨g5, 0, none⟩ (.slice (some ⟨gl, 0, none⟩) m5 cl)) g5 = m5) := by show _ = _; unfold lenAt; rw [cell_box s5]
          clear HDF o5 gr5 gr6 b5' hb5' b5 ol hbel e5
          subst hml
          go_wp2
          go_roundw
          case rel => exact ⟨j + 1, by omega, s5, sl, hbe⟩
          case measure => show lenAt _ g5 < lenAt _ g5; rw [HLA2.out, HLA.out]; have := HNL.out; omega
    · obtain rfl : j = n - 1 := by omega
      have hone : n - (n - 1) = 1 := by omega
      rw [hone] at ol bx cbx
      have c0 := own_cell ol 0 (by omega)
      have HLO : Hid ((leftTo V n (n - 1)).getD 0 0 = res) := HRES.out
      rw [HLO.out] at c0
      clear bx ol HLO LO HLA
      go_wp2
      go_ret
      exact ⟨rfl, hbel⟩
end Go.Proofs.Ytbpenheomiejfaa

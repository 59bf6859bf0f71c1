/-
  tally.Duels: at votes it returns the pairwise matrix, otherwise the error of tally.Check; nothing that was there is written.
-/
import Derived.Test.YthcaipnlgbnfkaaCTCheck
import Derived.Test.YthcaipnlgbnfkaaPureA
import Derived.Test.YthcaipnlgbnfkaaMakeR
import Derived.Test.YthcaipnlgbnfkaaM4
namespace Go.Proofs.Ythcaipnlgbnfkaa
open Go.RowKit Fm
set_option linter.unusedVariables false

theorem duelsE_nil (n : Int) (a : Option Addr) (m c : Nat) (V : List (List Int)) (w : World) (B : Nat) (hB : B ≤ w.heap.size) (hr : RdR w B a m V) (hm : m ≤ 17592186044416) (hv : vchk n V ≠ 0) :
    Calls Try.prog 37 #[.int .i64 n, .slice a m c] w (ErrNil (vchk n V) w) := by
  have HC := Lib.hid (tcheck_any n a m c V w B hB hr hm)
  have hne : (vchk n V != 0) = true := by simpa using hv
  clear hv hr
  generalize vchk n V = r at *
  go_enter Try.func37, Try.ntmps37
  go_wp2_with fail
  refine HC.out.mono ?_
  rintro e w1 ⟨rfl, hb⟩
  clear HC
  go_wp2
  go_ret2
  exact ⟨rfl, hb⟩
theorem duelsE_any (n : Int) (a : Option Addr) (m c : Nat) (V : List (List Int)) (w : World) (B : Nat) (hB : B ≤ w.heap.size) (hr : RdR w B a m V) (hm : m ≤ 17592186044416) (hv : vchk n V ≠ 0) :
    Calls Try.prog 37 #[.int .i64 n, .slice a m c] w (ErrOut (vchk n V) w) := (duelsE_nil n a m c V w B hB hr hm hv).mono fun _ _ h => h.out

/-- The count over W, and over the pairs of p that the loops have met. -/
def duTo (W : List (List Int)) (p : List Int) (j l : Nat) (x y : Int) : Int :=
  (cnt W x y : Int) + if (pos p x < j ∧ pos p x < pos p y) ∨ (pos p x = j ∧ (j : Int) < pos p y ∧ pos p y < j + 1 + l) then 1 else 0

theorem duTo_zero {n : Nat} (W : List (List Int)) {p : List Int} (hp : p.Perm (sides n)) : fnM n (fun x y => (cnt W x y : Int)) = fnM n (duTo W p 0 0) := by
  refine fnM_congr n (fun x y hx hy => ?_)
  have := pos_range hp hx
  unfold duTo
  rw [if_neg (by omega)]; omega
theorem duTo_next {n : Nat} (W : List (List Int)) {p : List Int} (hp : p.Perm (sides n)) {j : Nat} (hj : j < n) : fnM n (duTo W p j (n - (j + 1))) = fnM n (duTo W p (j + 1) 0) := by
  refine fnM_congr n (fun x y hx hy => ?_)
  have h1 := pos_range hp hx
  have h2 := pos_range hp hy
  unfold duTo
  by_cases h : (pos p x < j ∧ pos p x < pos p y) ∨ (pos p x = j ∧ (j : Int) < pos p y ∧ pos p y < j + 1 + (n - (j + 1) : Nat))
  · rw [if_pos h, if_pos (by omega)]
  · rw [if_neg h, if_neg (by omega)]
theorem duTo_end {n : Nat} (W : List (List Int)) {p : List Int} (hp : p.Perm (sides n)) : fnM n (duTo W p n 0) = fnM n (fun x y => (cnt (W ++ [p]) x y : Int)) := by
  refine fnM_congr n (fun x y hx hy => ?_)
  have h1 := pos_range hp hx
  have h2 := pos_range hp hy
  unfold duTo
  rw [cnt_snoc]
  by_cases h : pos p x < pos p y
  · rw [if_pos h, if_pos (by omega)]; simp
  · rw [if_neg h, if_neg (by omega)]; simp

set_option maxHeartbeats 4000000 in
set_option maxRecDepth 100000 in
theorem duels_own (n : Nat) (a : Option Addr) (m c : Nat) (V : List (List Int)) (w : World) (B : Nat) (hB : B ≤ w.heap.size) (hr : RdR w B a m V) (hm : m ≤ 17592186044416) (hv : vchk n V = 0) :
    Calls Try.prog 37 #[.int .i64 n, .slice a m c] w (MatOwn (duelsM n V) w) := by
  obtain rfl := hr.1
  have HC := Lib.hid (tcheck_any n a V.length c V w B hB hr hm)
  rw [hv] at HC
  have hp := vperm hv
  obtain ⟨⟨h1, h6⟩, hV, _⟩ := vchk_zero hv
  have hmk : ∀ W : World, (Instr.makeSlice 22 (.int .i64 n) (.int .i64 n)).run Try.prog W = .ok (.slice (some ⟨W.heap.size, 0, none⟩) n n) (W.alloc (.cells (zeros n) 3)) := make_ints n (by omega)
  have hmr : ∀ W : World, (Instr.makeSlice 44 (.int .i64 n) (.int .i64 n)).run Try.prog W = .ok (.slice (some ⟨W.heap.size, 0, none⟩) n n) (W.alloc (.cells (nils n) 22)) := make_rows n (by omega)
  have HMK := Lib.hid hmk
  have HR := Lib.hid hr
  have HP := Lib.hid hp
  clear hr hp hv hmk
  go_enter Try.func37, Try.ntmps37
  go_wp2_with fail
  refine HC.out.mono ?_
  rintro e w1 ⟨rfl, hb1⟩
  clear HC
  have hz1 := hb1.size
  have hm0 := (Mat.made w1 22 3 n (by unfold maxLen; omega)).mono hz1
  rw [zerosM_zero n] at hm0
  have hb0 := hb1.alloc hz1 (.cells (nils n) 22)
  clear hb1
  go_wp2_with fail
  clear hmr
  generalize w1.alloc (.cells (nils n) 22) = w2 at *
  generalize w1.heap.size = g at *
  go_loopw [25] (fun i wr => ∃ k : Nat, k ≤ n ∧ i = .int .i64 k ∧ Mat wr w.heap.size 22 3 (.slice (some ⟨g, 0, none⟩) n n) (zerosM n k) ∧ Below w.heap.size w wr) (fun i _ => n - (intOf i).toNat)
  case atStart => exact ⟨0, Nat.zero_le _, rfl, hm0, hb0⟩
  case round =>
    obtain ⟨k, hk, rfl, hm, hbel⟩ := hrel
    clear hm0 hb0
    by_cases hlt : k < n
    · have hz := hbel.size
      obtain ⟨u0, hc0, hf0, _⟩ := hm.row (zerosM_len hk) hlt
      have hgs := hm.form (by rw [zerosM_len hk]; omega)
      have hown := own_lit wr 3 (List.replicate n 0) (zeros n) rfl (by unfold maxLen; simp; omega)
      rw [List.length_replicate] at hown
      have hbz : Below wr.heap.size wr (wr.alloc (.cells (zeros n) 3)) := (Below.refl _ wr).alloc (Nat.le_refl _) _
      obtain ⟨m1, g1⟩ := hm.setRow (l := List.replicate n 0) (zerosM_len hk) hlt (by decide) hbz (by rw [List.length_replicate]; exact hown) hz
      rw [zerosM_set hlt] at m1
      have hgw : w.heap.size ≤ g ∧ g < wr.heap.size := by
        obtain ⟨g', cap, hv, hg0, hg, _⟩ := hgs
        injection hv with hv; injection hv with hv; injection hv with hv; omega
      have hb1 := (hbel.trans (hbz.mono hz)).grown g1 (by simp; omega) (fun y hy => by injection hy with hy; omega)
      have hmk := HMK.out
      have hc0' : ∀ ob, (wr.alloc ob).cell? ⟨g, k, none⟩ = some u0 := fun ob => (World.cell?_alloc_lt wr ob ⟨g, k, none⟩ hgw.2).trans hc0
      have hf0' : ∀ ob, (wr.alloc ob).frozen? ⟨g, k, none⟩ = false := fun ob => by
        rw [← hf0]; exact World.frozen?_of_block (Below.heap_alloc wr ob g hgw.2)
      have hgl := hgw.2
      rw [World.setCell_alloc_past _ _ _ _ hgl] at m1 hb1
      clear hm hbel hbz g1 hown hc0 hf0 hgs
      go_wp2
      go_roundw
      case rel => exact ⟨k + 1, by omega, by go_num, m1, hb1⟩
      case measure => simp [intOf]; omega
    · obtain rfl : k = n := by omega
      rw [zerosM_end] at hm
      have e0 : fnM k (fun _ _ => 0) = fnM k (fun x y => (cnt (V.take 0) x y : Int)) := fnM_congr k (fun x y _ _ => by simp [cnt])
      rw [e0] at hm
      clear e0
      go_wp2_with fail
      go_loopw [36] (fun i wr => ∃ t : Nat, t ≤ V.length ∧ i = .int .i64 t ∧ Mat wr w.heap.size 22 3 (.slice (some ⟨g, 0, none⟩) k k) (fnM k (fun x y => (cnt (V.take t) x y : Int))) ∧ Below w.heap.size w wr) (fun i _ => V.length - (intOf i).toNat)
      case atStart => exact ⟨0, Nat.zero_le _, rfl, hm, hbel⟩
      case round =>
        obtain ⟨t, ht, rfl, hm2, hbel2⟩ := hrel
        clear hm hbel
        have hz2 := hbel2.size
        by_cases htl : t < V.length
        · obtain ⟨b, o, a', c', rfl, hb, hcell, hlc, _, hcm, hrd⟩ := HR.out.at_ htl
          have hmem : V.getD t [] ∈ V := by rw [List.getD_eq_getElem?_getD, List.getElem?_eq_getElem htl]; exact List.getElem_mem htl
          have hperm := HP.out _ hmem
          have hpl : (V.getD t []).length = k := by have := hperm.length_eq; rwa [sides_len] at this
          have hsn : V.take (t + 1) = V.take t ++ [V.getD t []] := by
            rw [List.take_succ_eq_append_getElem htl, List.getD_eq_getElem?_getD, List.getElem?_eq_getElem htl]; rfl
          have hct : wr.cell? ⟨b, o + t, none⟩ = some (.slice a' k c') := by
            rw [(hbel2.cell (by show b < _; omega)), hcell, hpl]
          rw [hpl] at hrd hlc
          obtain ⟨b2, o2, rfl, hb2, _⟩ := hrd.at_ (k := 0) (by omega)
          have HRD := Lib.hid hrd
          have HPM := Lib.hid hperm
          have HPL := Lib.hid hpl
          have HSN := Lib.hid hsn
          have hvl : (V.take t).length ≤ 30 := by rw [List.length_take]; omega
          rw [duTo_zero (V.take t) hperm] at hm2
          clear hsn hcell hrd hmem hperm hpl
          generalize V.getD t [] = p at *
          generalize V.take t = W at *
          unfold maxLen at hcm
          obtain ⟨w0, rfl⟩ : ∃ w0, w0 = wr := ⟨_, rfl⟩
          go_wp2_with fail
          clear hct
          go_loopw [42] (fun i wr => ∃ j : Nat, j ≤ k ∧ i = .int .i64 j ∧ Mat wr w.heap.size 22 3 (.slice (some ⟨g, 0, none⟩) k k) (fnM k (duTo W p j 0)) ∧ Below w.heap.size w wr) (fun i _ => k - (intOf i).toNat)
          case atStart => exact ⟨0, Nat.zero_le _, rfl, hm2, hbel2⟩
          case round =>
            obtain ⟨j, hj, rfl, hm3, hbel3⟩ := hrel
            clear hm2 hbel2
            by_cases hjn : j < k
            · obtain ⟨b3, o3, he3, _, hcell3⟩ := HRD.out.at_ hjn
              injection he3 with he3; injection he3 with he3 he4; subst he3; subst he4
              have hc3 : wr.cell? ⟨b2, o2 + j, none⟩ = some (.int .i64 (p.getD j 0)) := by
                rw [(hbel3.cell (by show b2 < _; omega))]; exact hcell3
              clear hcell3
              have hj1 : j + 1 ≤ k := by omega
              have hnd := HPM.out.nodup_iff.2 (sides_nodup k)
              have hxm := getD_mem p j (by rw [HPL.out]; exact hjn)
              have hx := mem_sides.1 (HPM.out.mem_iff.1 hxm)
              have HPX := Lib.hid (pos_idx hnd (k := j) (by rw [HPL.out]; exact hjn))
              have HXM := Lib.hid hxm
              clear hxm hnd
              generalize p.getD j 0 = x at *
              obtain ⟨x, rfl⟩ : ∃ k : Nat, x = k := ⟨x.toNat, by omega⟩
              have hxn : x < k := by omega
              obtain ⟨w0', rfl⟩ : ∃ w0, w0 = wr := ⟨_, rfl⟩
              go_wp2_with fail
              case inl =>
                have hcj : c' = j + 1 := by first | exact h | omega
                have hk0 : k - (j + 1) = 0 := by omega
                have HCJ : Hid (c' ≤ j + 1) := Nat.le_of_eq hcj
                have hlc2 : j + 1 ≤ c' := by omega
                clear hc3 hcj h
                go_loopw [52] (fun i wr => i = .int .i64 0 ∧ Mat wr w.heap.size 22 3 (.slice (some ⟨g, 0, none⟩) k k) (fnM k (duTo W p j 0)) ∧ Below w.heap.size w wr) (fun _ _ => 0)
                case atStart => exact ⟨rfl, hm3, hbel3⟩
                case round =>
                  obtain ⟨rfl, hm4, hbel4⟩ := hrel
                  have e5 := duTo_next W HPM.out hjn
                  rw [hk0] at e5
                  rw [e5] at hm4
                  clear e5 hm3 hbel3
                  go_wp2
                  have hcj : c' = j + 1 := Nat.le_antisymm HCJ.out hlc2
                  subst hcj
                  go_roundw
                  case rel => exact ⟨j + 1, by omega, by go_num, hm4, hbel4⟩
                  case measure => simp [intOf]; omega
              case inr =>
                clear hc3
                go_loopw [52] (fun i wr => ∃ l : Nat, l ≤ k - (j + 1) ∧ i = .int .i64 l ∧ Mat wr w.heap.size 22 3 (.slice (some ⟨g, 0, none⟩) k k) (fnM k (duTo W p j l)) ∧ Below w.heap.size w wr) (fun i _ => (k - (j + 1)) - (intOf i).toNat)
                case atStart => exact ⟨0, Nat.zero_le _, rfl, hm3, hbel3⟩
                case round =>
                  obtain ⟨l, hl, rfl, hm4, hbel4⟩ := hrel
                  clear hm3 hbel3
                  have hz4 := hbel4.size
                  by_cases hln : l < k - (j + 1)
                  · have hjl : j + 1 + l < k := by omega
                    obtain ⟨b3, o3, he3, _, hcell3⟩ := HRD.out.at_ hjl
                    injection he3 with he3; injection he3 with he3 he4; subst he3; subst he4
                    have hc4 : wr.cell? ⟨b2, o2 + (j + 1) + l, none⟩ = some (.int .i64 (p.getD (j + 1 + l) 0)) := by
                      rw [Nat.add_assoc, (hbel4.cell (by show b2 < _; omega))]; exact hcell3
                    have hnd := HPM.out.nodup_iff.2 (sides_nodup k)
                    have hym := getD_mem p (j + 1 + l) (by rw [HPL.out]; exact hjl)
                    have hy := mem_sides.1 (HPM.out.mem_iff.1 hym)
                    have hpx := HPX.out
                    have hpy := pos_idx hnd (k := j + 1 + l) (by rw [HPL.out]; exact hjl)
                    have HF : Hid (∀ u v : Nat, u < k → v < k → duTo W p j (l + 1) u v = if (u : Int) = x ∧ (v : Int) = p.getD (j + 1 + l) 0 then (cnt W x (p.getD (j + 1 + l) 0) : Int) + 1 else duTo W p j l u v) := fun u v hx2 hy2 => by
                      have hm2 : (u : Int) ∈ p := HPM.out.mem_iff.2 (mem_sides.2 ⟨by omega, by omega⟩)
                      have hm3 : (v : Int) ∈ p := HPM.out.mem_iff.2 (mem_sides.2 ⟨by omega, by omega⟩)
                      unfold duTo
                      by_cases he : (u : Int) = x ∧ (v : Int) = p.getD (j + 1 + l) 0
                      · rw [if_pos he, he.1, he.2, hpx, hpy, if_pos (by omega)]
                      · rw [if_neg he]
                        have hne : ¬ (pos p u = j ∧ pos p v = (j + 1 + l : Nat)) := fun h0 => he ⟨pos_inj hnd hm2 HXM.out (by rw [h0.1, hpx]), pos_inj hnd hm3 hym (by rw [h0.2, hpy])⟩
                        by_cases hlt : (pos p u < j ∧ pos p u < pos p v) ∨ (pos p u = j ∧ (j : Int) < pos p v ∧ pos p v < j + 1 + l)
                        · rw [if_pos hlt, if_pos (by omega)]
                        · rw [if_neg hlt, if_neg (by omega)]
                    have HAT : Hid (duTo W p j l x (p.getD (j + 1 + l) 0) = cnt W x (p.getD (j + 1 + l) 0)) := by
                      show _ = _
                      unfold duTo; rw [hpx, hpy, if_neg (by omega)]; omega
                    clear hcell3 hym hnd hpx hpy
                    generalize p.getD (j + 1 + l) 0 = y at *
                    obtain ⟨y, rfl⟩ : ∃ k : Nat, y = k := ⟨y.toNat, by omega⟩
                    have hyn : y < k := by omega
                    obtain ⟨u, hcu, hfu, hou⟩ := hm4.row (fnM_len k _) hxn
                    rw [fnM_at k _ hxn, fnL_len] at hou
                    obtain ⟨g', cap', rfl, hg1, hg2, hnc, hcm2, hcells⟩ := own_form hou (by omega)
                    have hcv := hcells y hyn
                    rw [fnL_at k _ hyn, HAT.out] at hcv
                    have hfv := hou.frozenAt y
                    have hcl := cnt_le W x y
                    unfold maxLen at hcm2
                    obtain ⟨m7, g7⟩ := hm4.setCell (fnM_len k _) hxn (by decide) (by rw [fnM_at k _ hxn, fnL_len]) hcu y ((cnt W x y : Nat) + 1)
                    rw [fnM_set k _ hxn hyn, fnM_congr k (fun a b ha hb => (HF.out a b ha hb).symm)] at m7
                    have hb7 := hbel4.grown g7 hz4 (fun y hy => by injection hy with hy; omega)
                    clear g7 hm4 hbel4 HF HAT hou hcells
                    generalize cnt W x y = cc at *
                    go_wp2
                    go_roundw
                    case rel => exact ⟨l + 1, by omega, by go_num, m7, hb7⟩
                    case measure => simp [intOf]; omega
                  · obtain rfl : l = k - (j + 1) := by omega
                    rw [duTo_next W HPM.out hjn] at hm4
                    go_wp2
                    go_roundw
                    case rel => exact ⟨j + 1, by omega, by go_num, hm4, hbel4⟩
                    case measure => simp [intOf]; omega
            · obtain rfl : j = k := by omega
              rw [duTo_end W HPM.out, ← HSN.out] at hm3
              go_wp2
              go_roundw
              case rel => exact ⟨t + 1, by omega, by go_num, hm3, hbel3⟩
              case measure => simp [intOf]; omega
        · obtain rfl : t = V.length := by omega
          rw [List.take_of_length_le (Nat.le_refl _)] at hm2
          go_wp2
          go_ret2
          have hl : (duelsM k V).length = k := fnM_len k _
          exact ⟨_, rfl, hm2, hbel2⟩
theorem duels_any (n : Nat) (a : Option Addr) (m c : Nat) (V : List (List Int)) (w : World) (B : Nat) (hB : B ≤ w.heap.size) (hr : RdR w B a m V) (hm : m ≤ 17592186044416) (hv : vchk n V = 0) :
    Calls Try.prog 37 #[.int .i64 n, .slice a m c] w (MatOut (duelsM n V) w) := (duels_own n a m c V w B hB hr hm hv).mono fun _ _ h => h.mat
end Go.Proofs.Ythcaipnlgbnfkaa

/-
  tally.Points: at votes it returns the Borda scores, otherwise the error of tally.Check; nothing that was there is written.
-/
import Derived.Test.YthcaipnlgbnfkaaCTCheck
import Derived.Test.YthcaipnlgbnfkaaPureA
import Derived.Test.YthcaipnlgbnfkaaM4
import Derived.BigQuiet
import Derived.Deep.QuietTactic
import Derived.WalkKit
import Derived.KernelRfl
import Derived.Laws.NewBlocks
namespace Go.Proofs.Ythcaipnlgbnfkaa
open Go.RowKit Fm
set_option linter.unusedVariables false

theorem pointsE_any (n : Int) (a : Option Addr) (m c : Nat) (V : List (List Int)) (w : World) (B : Nat) (hB : B ≤ w.heap.size) (hr : RdR w B a m V) (hm : m ≤ 17592186044416) (hv : vchk n V ≠ 0) :
    Calls Try.prog 102 #[.int .i64 n, .slice a m c] w (ErrOut (vchk n V) w) := by
  have HC := Lib.hid (tcheck_any n a m c V w B hB hr hm)
  have hne : (vchk n V != 0) = true := by simpa using hv
  clear hv hr
  generalize vchk n V = r at *
  go_enter Try.func102, Try.ntmps102
  go_wp2_with fail
  refine HC.out.mono ?_
  rintro e w1 ⟨rfl, hb⟩
  clear HC
  go_wp2
  go_ret2
  exact ⟨none, 0, rfl, hb⟩

/-- The points over W, and over the first i places of p. -/
def ptsTo (n : Nat) (W : List (List Int)) (p : List Int) (i : Nat) (x : Int) : Int := pts n W x + if pos p x < i then (n : Int) - 1 - pos p x else 0

set_option maxHeartbeats 2000000 in
set_option maxRecDepth 100000 in
theorem points_any (n : Nat) (a : Option Addr) (m c : Nat) (V : List (List Int)) (w : World) (B : Nat) (hB : B ≤ w.heap.size) (hr : RdR w B a m V) (hm : m ≤ 17592186044416) (hv : vchk n V = 0) :
    Calls Try.prog 102 #[.int .i64 n, .slice a m c] w (IntsOut (pointsL n V) w) := by
  obtain rfl := hr.1
  have HC := Lib.hid (tcheck_any n a V.length c V w B hB hr hm)
  rw [hv] at HC
  have hp := vperm hv
  obtain ⟨⟨h1, h6⟩, hV, _⟩ := vchk_zero hv
  have hmk : ∀ W : World, (Instr.makeSlice 22 (.int .i64 n) (.int .i64 n)).run Try.prog W = .ok (.slice (some ⟨W.heap.size, 0, none⟩) n n) (W.alloc (.cells (zeros n) 3)) := make_ints n (by omega)
  have HR := Lib.hid hr
  have HP := Lib.hid hp
  clear hr hp hv
  go_enter Try.func102, Try.ntmps102
  go_wp2_with fail
  refine HC.out.mono ?_
  rintro e w1 ⟨rfl, hb1⟩
  clear HC
  have hz1 := hb1.size
  have own0 := own_lit w1 3 (List.replicate n 0) (zeros n) rfl (by unfold maxLen; simp; omega)
  rw [List.length_replicate] at own0
  have own1 := own_mono own0 hz1
  have hz0 : List.replicate n (0 : Int) = pointsL n (V.take 0) := by
    rw [zeroL]; exact fnL_congr n (fun j hj => by simp [pts])
  rw [hz0] at own1
  have hb2 := hb1.alloc hz1 (.cells (zeros n) 3)
  clear own0 hz0 hb1
  go_wp2_with fail
  clear hmk
  generalize w1.alloc (.cells (zeros n) 3) = w2 at *
  generalize w1.heap.size = g at *
  go_loopw [22] (fun i wr => ∃ t : Nat, t ≤ V.length ∧ i = .int .i64 t ∧ wr.ownsRow w.heap.size 3 1 (.slice (some ⟨g, 0, none⟩) n n) n (I (pointsL n (V.take t))) ∧ Below w.heap.size w wr) (fun i _ => V.length - (intOf i).toNat)
  case atStart => exact ⟨0, Nat.zero_le _, rfl, own1, hb2⟩
  case round =>
    obtain ⟨t, ht, rfl, own, hbel⟩ := hrel
    clear own1 hb2
    have hz := hbel.size
    by_cases htl : t < V.length
    · obtain ⟨b, o, a', c', rfl, hb, hcell, _, _, _, hrd⟩ := HR.out.at_ htl
      have hmem : V.getD t [] ∈ V := by rw [List.getD_eq_getElem?_getD, List.getElem?_eq_getElem htl]; exact List.getElem_mem htl
      have hperm := HP.out _ hmem
      have hpl : (V.getD t []).length = n := by have := hperm.length_eq; rwa [sides_len] at this
      have hsn : V.take (t + 1) = V.take t ++ [V.getD t []] := by
        rw [List.take_succ_eq_append_getElem htl, List.getD_eq_getElem?_getD, List.getElem?_eq_getElem htl]; rfl
      have hct : wr.cell? ⟨b, o + t, none⟩ = some (.slice a' n c') := by
        rw [(hbel.cell (by show b < _; omega)), hcell, hpl]
      rw [hpl] at hrd
      obtain ⟨b2, o2, rfl, hb2, _⟩ := hrd.at_ (k := 0) (by omega)
      have HRD := Lib.hid hrd
      have HPM := Lib.hid hperm
      have HPL := Lib.hid hpl
      have HSN := Lib.hid hsn
      have HPT : Hid (∀ x : Nat, x < n → 0 ≤ pts n (V.take t) x ∧ pts n (V.take t) x ≤ (V.take t).length * n) := fun x hx => pts_range (fun q hq => HP.out q (List.mem_of_mem_take hq)) hx
      have hvl : (V.take t).length ≤ 30 := by rw [List.length_take]; omega
      have e0 : pointsL n (V.take t) = fnL n (ptsTo n (V.take t) (V.getD t []) 0) := by
        refine fnL_congr n (fun j hj => ?_)
        have := pos_range hperm hj
        unfold ptsTo
        rw [if_neg (by omega)]; omega
      rw [e0] at own
      clear hsn hcell hrd hmem hperm hpl e0
      generalize V.getD t [] = p at *
      generalize V.take t = W at *
      obtain ⟨w0, rfl⟩ : ∃ w0, w0 = wr := ⟨_, rfl⟩
      go_wp2_with fail
      clear hct
      go_loopw [28] (fun i wr => ∃ j : Nat, j ≤ n ∧ i = .int .i64 j ∧ wr.ownsRow w.heap.size 3 1 (.slice (some ⟨g, 0, none⟩) n n) n (I (fnL n (ptsTo n W p j))) ∧ Below w.heap.size w wr) (fun i _ => n - (intOf i).toNat)
      case atStart => exact ⟨0, Nat.zero_le _, rfl, own, hbel⟩
      case round =>
        obtain ⟨j, hj, rfl, own3, hbel3⟩ := hrel
        clear own hbel
        have hz3 := hbel3.size
        by_cases hjn : j < n
        · obtain ⟨b3, o3, he3, _, hcell3⟩ := HRD.out.at_ hjn
          injection he3 with he3; injection he3 with he3 he4; subst he3; subst he4
          have hc3 : wr.cell? ⟨b2, o2 + j, none⟩ = some (.int .i64 (p.getD j 0)) := by
            rw [(hbel3.cell (by show b2 < _; omega))]; exact hcell3
          have hxm := getD_mem p j (by rw [HPL.out]; exact hjn)
          have hx := mem_sides.1 (HPM.out.mem_iff.1 hxm)
          have hnd := HPM.out.nodup_iff.2 (sides_nodup n)
          have hpos := pos_idx hnd (k := j) (by rw [HPL.out]; exact hjn)
          have HF : Hid (∀ x : Nat, x < n → ptsTo n W p (j + 1) x = if (x : Int) = p.getD j 0 then pts n W (p.getD j 0) + ((n : Int) - 1 - j) else ptsTo n W p j x) := fun x hx2 => by
            have hm2 : (x : Int) ∈ p := HPM.out.mem_iff.2 (mem_sides.2 ⟨by omega, by omega⟩)
            unfold ptsTo
            by_cases he : (x : Int) = p.getD j 0
            · rw [if_pos he, he, hpos, if_pos (by omega)]
            · rw [if_neg he]
              have hne : pos p x ≠ j := fun h0 => he (pos_inj hnd hm2 hxm (by rw [h0, hpos]))
              by_cases hlt : pos p x < j
              · rw [if_pos hlt, if_pos (by omega)]
              · rw [if_neg hlt, if_neg (by omega)]
          have hat : ptsTo n W p j (p.getD j 0) = pts n W (p.getD j 0) := by
            unfold ptsTo; rw [hpos, if_neg (by omega)]; omega
          have HAT := Lib.hid hat
          clear hcell3 hxm hnd hpos hat
          generalize p.getD j 0 = x at *
          obtain ⟨k, rfl⟩ : ∃ k : Nat, x = k := ⟨x.toNat, by omega⟩
          have hkn : k < n := by omega
          have ck := own_cell own3 k hkn
          have fk := own3.frozenAt k
          rw [fnL_at n _ hkn, HAT.out] at ck
          have hpt := HPT.out k hkn
          have hpt2 : ((W.length : Int)) * n ≤ 30 * 6 := Int.mul_le_mul (by omega) (by omega) (by omega) (by omega)
          have hpt3 : pts n W k ≤ 180 := by omega
          have hpt4 := hpt.1
          clear hpt hpt2
          obtain ⟨s1, g1⟩ := own3.stored k (.int .i64 (pts n W k + ((n : Int) - 1 - j)))
          have es : (I (fnL n (ptsTo n W p j))).set k (.int .i64 (pts n W k + ((n : Int) - 1 - j))) = I (fnL n (ptsTo n W p (j + 1))) := by
            have e1 : (fnL n (ptsTo n W p j)).set k (pts n W k + ((n : Int) - 1 - j)) = fnL n (ptsTo n W p (j + 1)) :=
              (fnL_set n _ hkn _).trans (fnL_congr n (fun y hy => (HF.out y hy).symm))
            rw [← e1]; unfold I; rw [List.map_set]
          rw [es] at s1
          have hb5 := hbel3.grown g1 hz3 (fun y hy => by injection hy with hy; have := (own3.lt g rfl).1; omega)
          clear es g1 own3 hbel3 HF HAT
          generalize pts n W k = f1 at *
          go_wp2
          go_roundw
          case rel => exact ⟨j + 1, by omega, by go_num, s1, hb5⟩
          case measure => simp [intOf]; omega
        · obtain rfl : j = n := by omega
          have e9 : fnL j (ptsTo j W p j) = pointsL j (V.take (t + 1)) := by
            refine fnL_congr j (fun x hx => ?_)
            rw [HSN.out, pts_snoc]
            have := pos_range HPM.out hx
            unfold ptsTo; rw [if_pos this.2]
          rw [e9] at own3
          go_wp2
          go_roundw
          case rel => exact ⟨t + 1, by omega, by go_num, own3, hbel3⟩
          case measure => simp [intOf]; omega
    · obtain rfl : t = V.length := by omega
      rw [List.take_of_length_le (Nat.le_refl _)] at own
      go_wp2
      go_ret2
      have hl : (pointsL n V).length = n := fnL_len n _
      refine ⟨some ⟨g, 0, none⟩, n, by rw [hl]; rfl, Nat.le_of_eq hl, by unfold maxLen; omega, ?_, hbel⟩
      rw [hl]
      exact Rd.of_own own
end Go.Proofs.Ythcaipnlgbnfkaa

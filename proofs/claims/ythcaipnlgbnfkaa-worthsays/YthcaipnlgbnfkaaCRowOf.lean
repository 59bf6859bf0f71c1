/-
  plumeref.RowOf and plumeref.SharedOf at a right game: what each adds in an order, and over all orders, in rows of their own; nothing that was there is written.
-/
import Derived.Test.YthcaipnlgbnfkaaCWorths
import Derived.Test.YthcaipnlgbnfkaaLawWorthRows
import Derived.Test.YthcaipnlgbnfkaaCAllOrders
import Derived.Test.YthcaipnlgbnfkaaCSides
namespace Go.Proofs.Ythcaipnlgbnfkaa
open Go.RowKit Fm
set_option linter.unusedVariables false

/-- What the first k of p add. -/
def roTo (n : Nat) (V p : List Int) (k : Nat) : List Int := fnL n (fun y => if pos p y < k then rowG (val V) n p y else 0)
theorem roTo_zero {n : Nat} (V : List Int) {p : List Int} (hp : p.Perm (sides n)) : List.replicate n 0 = roTo n V p 0 := by
  rw [zeroL]
  exact fnL_congr n (fun j hj => by
    have := pos_range hp hj
    rw [if_neg (by omega)])
theorem roTo_end {n : Nat} {V p : List Int} (hp : p.Perm (sides n)) : roTo n V p n = rowL n V p := fnL_congr n (fun j hj => by
  have := pos_range hp hj
  rw [if_pos (by omega)])
theorem roTo_set {n : Nat} {V p : List Int} (hp : p.Perm (sides n)) {k x : Nat} (hk : k < n) (hxn : x < n) (hx : p.getD k 0 = x) : (roTo n V p k).set x (rowG (val V) n p x) = roTo n V p (k + 1) := by
  have hnd := perm_nodup hp
  have hpx : pos p (x : Int) = k := by rw [← hx]; exact pos_idx hnd (by rw [perm_len hp]; exact hk)
  unfold roTo
  rw [fnL_set n _ hxn]
  refine fnL_congr n (fun j hj => ?_)
  by_cases e : (j : Int) = x
  · rw [if_pos e, e, if_pos (by omega)]
  · rw [if_neg e]
    have hne : pos p (j : Int) ≠ k := fun h => e (pos_inj hnd (hp.mem_iff.2 (mem_sides.2 ⟨by omega, by omega⟩)) (hp.mem_iff.2 (mem_sides.2 ⟨by omega, by omega⟩)) (by rw [h, hpx]))
    by_cases q : pos p (j : Int) < k
    · rw [if_pos q, if_pos (by omega)]
    · rw [if_neg q, if_neg (by omega)]

set_option maxHeartbeats 2000000 in
set_option maxRecDepth 100000 in
theorem rowOf_any {n N : Nat} {V p : List Int} (g : Gm n V) (hN : 2 ^ n = N) (hp : p.Perm (sides n)) (a ap : Option Addr) (c cp : Nat) (w : World) (hr : Rd w w.heap.size a N V) (hrp : Rd w w.heap.size ap n p) :
    Calls Try.prog 24 #[.slice a N c, .slice ap n cp] w fun e w' => ∃ v, e = .returned v ∧ w'.ownsRow w.heap.size 3 1 v n (I (rowL n V p)) ∧ Below w.heap.size w w' := by
  have h1 := g.pos
  have h6 := g.le
  have hN64 : N ≤ 64 := by rw [← hN]; exact pow6 h6
  have HST : Hid (∀ k x : Nat, k < n → x < n → p.getD k 0 = x → (roTo n V p k).set x (rowG (val V) n p x) = roTo n V p (k + 1)) := fun k x hk hx he => roTo_set hp hk hx he
  have HEN := Lib.hid (roTo_end (V := V) hp)
  have HAT : Hid (∀ k, k < n → ∃ x : Nat, p.getD k 0 = x ∧ x < n) := fun k hk => at_nat hp hk
  have HPS : Hid (∀ k, k ≤ n → pS p k < N) := fun k hk => by rw [← hN]; exact (pS_all hp k hk).1
  have HSP : Hid (∀ k x : Nat, k < n → p.getD k 0 = x → pS p (k + 1) = pS p k + 2 ^ x ∧ rowG (val V) n p x = val V (pS p (k + 1)) - val V (pS p k)) := fun k x hk hx => ⟨pS_step hp hk hx, by rw [← hx]; exact row_at hp hk⟩
  have HVB : Hid (∀ S, -1000000 ≤ val V S ∧ val V S ≤ 1000000) := g.val_bd
  have HR := Lib.hid hr
  have HRP := Lib.hid hrp
  have hmk : ∀ W : World, (Instr.makeSlice 22 (.int .i64 n) (.int .i64 n)).run Try.prog W = .ok (.slice (some ⟨W.heap.size, 0, none⟩) n n) (W.alloc (.cells (zeros n) 3)) := make_ints n (by omega)
  obtain ⟨B, hB⟩ : ∃ B, B = w.heap.size := ⟨_, rfl⟩
  have own0 := own_lit w 3 (List.replicate n 0) (zeros n) rfl (by unfold maxLen; simp; omega)
  rw [List.length_replicate, roTo_zero V hp] at own0
  have own1 := own_mono own0 (Nat.le_of_eq hB)
  have hb0 : Below B w (w.alloc (.cells (zeros n) 3)) := by rw [hB]; exact (Below.refl _ w).alloc (Nat.le_refl _) _
  have hs0 : B ≤ (w.alloc (.cells (zeros n) 3)).heap.size := by rw [hB]; exact Nat.le_of_lt (by simp)
  rw [← hB] at HR HRP ⊢
  have HN1 : 1 ≤ N := by rw [← hN]; exact pow1 n
  obtain ⟨bv, ov, rfl, hbv, hcv⟩ := HR.out.2 (by omega)
  have HCV : Hid (∀ j, j < N → w.cell? ⟨bv, ov + j, none⟩ = some (.int .i64 (val V j))) := hcv
  clear hr hrp hB own0 hcv g hp hN
  generalize rowL n V p = res at *
  go_enter Try.func24, Try.ntmps24
  go_wp2_with fail
  clear hmk
  generalize w.alloc (.cells (zeros n) 3) = w2 at *
  generalize w.heap.size = g at *
  go_loopw [6, 15] (fun sv iv wr => ∃ k : Nat, k ≤ n ∧ iv = .int .i64 k ∧ sv = .int .i64 (pS p k : Nat) ∧ wr.ownsRow B 3 1 (.slice (some ⟨g, 0, none⟩) n n) n (I (roTo n V p k)) ∧ Below B w wr ∧ B ≤ wr.heap.size) (fun _ iv _ => n - (intOf iv).toNat)
  case atStart => exact ⟨0, Nat.zero_le _, rfl, rfl, own1, hb0, hs0⟩
  case round =>
    obtain ⟨k, hk, rfl, rfl, own, hbel, hz⟩ := hrel
    clear own1 hb0 hs0
    by_cases hkn : k < n
    · obtain ⟨x, hx, hxn⟩ := HAT.out k hkn
      obtain ⟨b, o, rfl, hb, hcell⟩ := HRP.out.at_ hkn
      rw [hx] at hcell
      have hck : wr.cell? ⟨b, o + k, none⟩ = some (.int .i64 (x : Int)) := (hbel.cell (by show b < _; omega)).trans hcell
      obtain ⟨e1, e2⟩ := HSP.out k x hkn hx
      have p1 := HPS.out k hk
      have p2 := HPS.out (k + 1) (by omega)
      have hst := HST.out k x hkn hxn hx
      rw [e2] at hst
      have r1 : wr.cell? ⟨bv, ov + pS p k, none⟩ = some (.int .i64 (val V (pS p k))) := (hbel.cell (by show bv < _; omega)).trans (HCV.out _ p1)
      have r2 : wr.cell? ⟨bv, ov + pS p (k + 1), none⟩ = some (.int .i64 (val V (pS p (k + 1)))) := (hbel.cell (by show bv < _; omega)).trans (HCV.out _ p2)
      have v1 := HVB.out (pS p k)
      have v2 := HVB.out (pS p (k + 1))
      have hpw := gm_pw (show x ≤ 6 by omega)
      obtain ⟨X2, hX2⟩ : ∃ X2 : Nat, 2 ^ x = X2 := ⟨_, rfl⟩
      rw [hX2] at hpw e1
      generalize val V (pS p k) = y1 at *
      generalize val V (pS p (k + 1)) = y2 at *
      obtain ⟨S2, hS2⟩ : ∃ S2 : Nat, pS p (k + 1) = S2 := ⟨_, rfl⟩
      have HS2 := Lib.hid hS2
      rw [hS2] at e1 r2 p2
      clear hcell hx e2 hS2 hX2
      generalize pS p k = S1 at *
      have z1 : (S1 : Int) + (X2 : Int) = (S2 : Int) := by omega
      have z2 : (S1 : Int) < (N : Int) := by omega
      have z3 : (S2 : Int) < (N : Int) := by omega
      have ck := own_cell own x hxn
      have fk := own.frozenAt x
      obtain ⟨s1, g1⟩ := own.stored x (.int .i64 (y2 - y1))
      have es : (I (roTo n V p k)).set x (.int .i64 (y2 - y1)) = I (roTo n V p (k + 1)) := by
        rw [← hst]; unfold I; rw [List.map_set]
      rw [es] at s1
      have hb5 := hbel.grown g1 hz (fun z hz2 => by injection hz2 with hz2; have := (own.lt g rfl).1; omega)
      have hz5 := Nat.le_trans hz g1.size
      clear es g1 hst own hbel e1
      go_wp2
      go_roundw
      case rel => exact ⟨k + 1, by omega, by go_num, by rw [HS2.out], s1, hb5, hz5⟩
      case measure => simp [intOf]; omega
    · obtain rfl : k = n := by omega
      rw [HEN.out] at own
      go_wp2
      go_ret
      exact ⟨_, rfl, own, hbel⟩

set_option maxHeartbeats 4000000 in
set_option maxRecDepth 100000 in
theorem sharedOf_any {n N : Nat} {V : List Int} (g : Gm n V) (hN : 2 ^ n = N) (a : Option Addr) (c : Nat) (w : World) (hr : Rd w w.heap.size a N V) :
    Calls Try.prog 21 #[.int .i64 n, .slice a N c] w fun e w' => ∃ v, e = .returned v ∧ w'.ownsRow w.heap.size 3 1 v n (I (shL n V)) ∧ Below w.heap.size w w' := by
  have h1 := g.pos
  have h6 := g.le
  have HG := Lib.hid g
  have HN := Lib.hid hN
  have hmk : ∀ W : World, (Instr.makeSlice 22 (.int .i64 n) (.int .i64 n)).run Try.prog W = .ok (.slice (some ⟨W.heap.size, 0, none⟩) n n) (W.alloc (.cells (zeros n) 3)) := make_ints n (by omega)
  have own0 := own_lit w 3 (List.replicate n 0) (zeros n) rfl (by unfold maxLen; simp; omega)
  rw [List.length_replicate, zeroL n] at own0
  have b1 : Below w.heap.size w (w.alloc (.cells (zeros n) 3)) := (Below.refl _ _).alloc (Nat.le_refl _) _
  have R1 := Lib.hid (hr.below b1 (Nat.le_refl _))
  have hs1 : w.heap.size < (w.alloc (.cells (zeros n) 3)).heap.size := by simp
  have QO : Hid (∀ a c W, n ≤ c → c ≤ maxLen → Rd W W.heap.size a n (sides n) → Calls Try.prog 57 #[.slice a n c] W (OrdersOut n (sides n) W)) := fun a c W q1 q2 q3 => allOrders_any n h6 (sides n) a c W W.heap.size (sides_len n) (Nat.le_refl _) q1 q2 q3
  have ePO : perms n (sides n) = allO n := rfl
  unfold OrdersOut at QO
  rw [ePO] at QO
  have HAL : Hid (∀ p ∈ allO n, p.Perm (sides n)) := fun p hp => mem_allO.1 hp
  have HSH : Hid (shL n V = fnL n (fun x => tL (allO n) (fun p => rowG (val V) n p x))) := rfl
  have hlp : 0 < (allO n).length := by rw [allO_len h1 (by omega)]; exact fact_ge n
  have hl7 := allO_le h1 h6
  clear hr g hN ePO
  generalize shL n V = sh at *
  go_enter Try.func21, Try.ntmps21
  go_wp2_with fail
  clear hmk
  generalize w.alloc (.cells (zeros n) 3) = w1 at *
  obtain ⟨g, hg⟩ : ∃ g, g = w.heap.size := ⟨_, rfl⟩
  have hgw : w.heap.size ≤ g := by omega
  have hs2 : g < w1.heap.size := by omega
  rw [← hg] at R1 own0 ⊢
  clear hg hs1
  refine (sides_any n w1 (by omega)).mono ?_
  rintro e w2 ⟨v2, rfl, o2, hb2⟩
  obtain ⟨a2, c2, rfl, hc2, hm2⟩ := own_slice o2
  go_wp2_with fail
  refine (QO.out a2 c2 w2 hc2 hm2 (Rd.of_own o2)).mono ?_
  rintro e w5 ⟨v5, vs5, rfl, o5, el5, hb5⟩
  obtain ⟨g5, c5, rfl, hg5, hg5'⟩ := o5.form hlp
  have hz2 := hb2.size
  have hz5 := hb5.size
  have hne5 : g5 ≠ g := fun e => by omega
  have b15 := ext_trans hb2 hb5
  have own5 := own_below own0 b15 (Nat.le_refl _)
  have hb05 := b1.trans (b15.mono b1.size)
  have R5 := Lib.hid (R1.out.below b15 (by omega))
  have HO5 := Lib.hid o5
  have EL := Lib.hid el5
  clear QO o2 hb2 hb5 R1 own0 b1 b15 o5 el5
  generalize allO n = L at *
  have own6 : w5.ownsRow w.heap.size 3 1 (.slice (some ⟨g, 0, none⟩) n n) n (I (fnL n (fun x => tL (L.take 0) (fun p => rowG (val V) n p x)))) := own_mono own5 hgw
  have HRB : Hid (∀ (p : List Int) (x : Int), -2000000 ≤ rowG (val V) n p x ∧ rowG (val V) n p x ≤ 2000000) := fun p x => row_bd HG.out p x
  have HGB : Hid (∀ (M : List (List Int)), M.length ≤ 720 → ∀ x : Int, -1440000000 ≤ tL M (fun p => rowG (val V) n p x) ∧ tL M (fun p => rowG (val V) n p x) ≤ 1440000000) := fun M hM x => gotBd HG.out M hM x
  clear own5
  go_wp2_with fail
  go_loopw [16] (fun tv wr => ∃ s : Nat, s ≤ L.length ∧ tv = .int .i64 s ∧ wr.ownsRow w.heap.size 3 1 (.slice (some ⟨g, 0, none⟩) n n) n (I (fnL n (fun x => tL (L.take s) (fun p => rowG (val V) n p x)))) ∧ w5.grownBy wr (some g)) (fun tv _ => L.length - (intOf tv).toNat)
  case atStart => exact ⟨0, Nat.zero_le _, rfl, own6, grown_refl _ _⟩
  case round =>
    obtain ⟨s, hs, rfl, own, hgr⟩ := hrel
    clear own6
    have hz : w5.heap.size ≤ wr.heap.size := hgr.size
    by_cases hsL : s < L.length
    · obtain ⟨u, hu, hou⟩ := EL.out.at_ hsL
      have hperm := HAL.out _ (memR hsL)
      have hql := perm_len hperm
      rw [hql] at hou
      obtain ⟨gu, cu, rfl, hgu, hgu', hnc, _, hcu⟩ := own_form hou (by omega)
      have hck : wr.cell? ⟨g5, s, none⟩ = some (.slice (some ⟨gu, 0, none⟩) n cu) := by
        rw [hgr.cell_far _ (by exact hg5') (by intro e; injection e with e; exact hne5 e), HO5.out.cellAt s (by omega)]
        exact hu
      have hngu : gu ≠ g := fun e => by omega
      have rp : Rd wr wr.heap.size (some ⟨gu, 0, none⟩) n (L.getD s []) := by
        have := Rd.of_own hou
        refine ⟨this.1, fun _ => ⟨gu, 0, rfl, by omega, fun j hj => ?_⟩⟩
        rw [Nat.zero_add, hgr.cell_far _ (by exact hgu') (by intro e; injection e with e; exact hngu e)]
        exact hcu j hj
      have rv := (R5.out.grown hgr (by omega) (fun y hy => by injection hy with hy; omega)).more (show g ≤ wr.heap.size by omega)
      have HQ := Lib.hid (rowOf_any HG.out HN.out hperm a (some ⟨gu, 0, none⟩) c cu wr rv rp)
      have hsn : L.take (s + 1) = L.take s ++ [L.getD s []] := by
        rw [List.take_succ_eq_append_getElem hsL, List.getD_eq_getElem?_getD, List.getElem?_eq_getElem hsL]; rfl
      have HSN : Hid (fnL n (fun x => tL (L.take (s + 1)) (fun p => rowG (val V) n p x)) = fnL n (fun x => tL (L.take s) (fun p => rowG (val V) n p x) + rowG (val V) n (L.getD s []) x)) := by
        show _ = _
        rw [hsn]
        refine fnL_congr n (fun j hj => ?_)
        rw [tL_append, tL_cons]
        simp [tL]
      have HTB := Lib.hid (HGB.out (L.take s) (by rw [List.length_take]; omega))
      have HRP : Hid (∀ x : Int, -2000000 ≤ rowG (val V) n (L.getD s []) x ∧ rowG (val V) n (L.getD s []) x ≤ 2000000) := HRB.out _
      have HRAT : Hid (∀ i, i < n → (rowL n V (L.getD s [])).getD i 0 = rowG (val V) n (L.getD s []) i) := fun i hi => rowL_at V _ hi
      clear hsn hperm hql rp rv hu hou hcu
      generalize L.getD s [] = p at *
      generalize hF : (fun x => tL (L.take s) (fun p => rowG (val V) n p x)) = F at *
      have HF : Hid (∀ x, tL (L.take s) (fun p => rowG (val V) n p x) = F x) := fun x => by rw [← hF]
      have HTF : Hid (∀ x, -1440000000 ≤ F x ∧ F x ≤ 1440000000) := fun x => by rw [← HF.out]; exact HTB.out x
      have HSN2 : Hid (fnL n (fun y => F y + rowG (val V) n p y) = fnL n (fun x => tL (L.take (s + 1)) (fun p => rowG (val V) n p x))) := by
        show _ = _
        rw [HSN.out]
        exact fnL_congr n (fun j _ => by rw [HF.out])
      clear hF HTB HSN
      go_wp2_with fail
      refine HQ.out.mono ?_
      rintro e w9 ⟨v9, rfl, o9, hb9⟩
      obtain ⟨b9, c9, rfl, hb9n, hb9l, _, _, q9⟩ := own_form o9 (by omega)
      have own9 := own_below own hb9 (Nat.le_refl _)
      have hgr9 := grown_trans hgr (below_grownBy hb9 (some g))
      have hne9 : b9 ≠ g := fun e => by omega
      have Q9 : Hid (∀ i, i < n → w9.cell? ⟨b9, i, none⟩ = some (.int .i64 (rowG (val V) n p i))) := fun i hi => by rw [q9 i hi, HRAT.out i hi]
      rw [addL_zero n F (rowG (val V) n p)] at own9
      clear HQ o9 hb9 own hgr q9 hck HRAT
      go_wp2_with fail
      go_loopw [24] (fun iv wr => ∃ i : Nat, i ≤ n ∧ iv = .int .i64 i ∧ wr.ownsRow w.heap.size 3 1 (.slice (some ⟨g, 0, none⟩) n n) n (I (addL n F (rowG (val V) n p) i)) ∧ w9.grownBy wr (some g)) (fun iv _ => n - (intOf iv).toNat)
      case atStart => exact ⟨0, Nat.zero_le _, rfl, own9, grown_refl _ _⟩
      case round =>
        obtain ⟨i, hi, rfl, ow3, gr3⟩ := hrel
        clear own9
        by_cases hin : i < n
        · have r1 : wr.cell? ⟨b9, i, none⟩ = some (.int .i64 (rowG (val V) n p i)) := (gr3.cell_far _ (by exact hb9l) (by intro e; injection e with e; exact hne9 e)).trans (Q9.out i hin)
          have ck := own_cell ow3 i hin
          rw [addL_at F _ hin] at ck
          have fk := ow3.frozenAt i
          have hst := addL_set F (rowG (val V) n p) hin
          have y1 := HTF.out i
          have y2 := HRP.out i
          obtain ⟨s1, g1⟩ := ow3.stored i (.int .i64 (F i + rowG (val V) n p i))
          have es : (I (addL n F (rowG (val V) n p) i)).set i (.int .i64 (F i + rowG (val V) n p i)) = I (addL n F (rowG (val V) n p) (i + 1)) := by
            rw [← hst]; unfold I; rw [List.map_set]
          rw [es] at s1
          have gr4 := grown_trans gr3 g1
          clear es g1 hst ow3 gr3
          generalize rowG (val V) n p i = x2 at *
          generalize F (i : Int) = x1 at *
          go_wp2
          go_roundw
          case rel => exact ⟨i + 1, by omega, by go_num, s1, gr4⟩
          case measure => simp [intOf]; omega
        · obtain rfl : i = n := by omega
          rw [addL_end] at ow3
          have hg3 := grown_trans hgr9 gr3
          rw [HSN2.out] at ow3
          go_wp2
          go_roundw
          case rel => exact ⟨s + 1, by omega, by go_num, ow3, hg3⟩
          case measure => simp [intOf]; omega
    · obtain rfl : s = L.length := by omega
      rw [List.take_of_length_le (Nat.le_refl _), ← HSH.out] at own
      have hbe := hb05.grown hgr hb05.size (fun y hy => by injection hy with hy; omega)
      go_wp2
      go_ret
      exact ⟨_, rfl, own, hbe⟩
end Go.Proofs.Ythcaipnlgbnfkaa

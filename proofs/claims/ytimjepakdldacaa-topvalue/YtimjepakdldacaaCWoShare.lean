/-
  Package worth: Share: what it returns; nothing that was there is written.
-/
import Derived.Test.YtimjepakdldacaaCWoCon
import Derived.Test.YtimjepakdldacaaCAll
namespace Go.Proofs.Ytimjepakdldacaa
open Go.RowKit Fm
set_option linter.unusedVariables false

theorem wShareE : WShareE := by
  intro n a m c V w hL ht
  have HC := Lib.hid (woCheck_any n a m c V w _ hL.1 hL.2.1)
  have hne : (gchk n V != 0) = true := by simpa using ht
  clear ht hL
  generalize gchk n V = r at *
  go_enter Try.func49, Try.ntmps49
  go_wp2_with fail
  refine HC.out.mono ?_
  rintro e w1 ⟨rfl, rfl⟩
  clear HC
  go_wp2
  go_ret2
  exact ⟨none, 0, rfl, Below.refl _ w⟩

set_option maxHeartbeats 2000000 in
set_option maxRecDepth 100000 in
theorem wShare : WShare := by
  intro n a m c V w hL g
  have HC := Lib.hid (woCheck_any n a m c V w _ hL.1 hL.2.1)
  rw [g.chk] at HC
  have h1 := g.pos
  have h6 := g.le
  obtain ⟨hr, _, _⟩ := hL
  have hlm : 2 ^ n = m := by rw [← hr.1]; exact g.len.symm
  have hmk : ∀ W : World, (Instr.makeSlice 27 (.int .i64 n) (.int .i64 n)).run Try.prog W = .ok (.slice (some ⟨W.heap.size, 0, none⟩) n n) (W.alloc (.cells (zeros n) 3)) := make_ints n (by omega)
  have QA := Lib.hid (all_any n w h1 h6)
  unfold AllOut at QA
  obtain ⟨FN, hFN⟩ : ∃ FN : Nat → List Int, ∀ k, FN k = fnL n fun x => tL ((allO n).take k) (fun p => rowG (val V) n p x) := ⟨_, fun _ => rfl⟩
  have QC : Hid (∀ (W : World) (b B cs cp k : Nat) (ap : Option Addr), k < (allO n).length → Rd W b a m V → Rd W b ap n ((allO n).getD k []) → W.ownsRow B 3 1 (.slice (some ⟨b, 0, none⟩) n cs) n (I (FN k)) →
      Calls Try.prog 65 #[.slice a m c, .slice ap n cp, .slice (some ⟨b, 0, none⟩) n cs] W (ConOut B b (.slice (some ⟨b, 0, none⟩) n cs) n (FN (k + 1)) W)) := fun W b B cs cp k ap hk hrv hrp ho => by
    have hpk : ((allO n).getD k []).Perm (sides n) := mem_allO.1 (memR hk)
    have hB : ∀ x : Int, -2000000000 ≤ tL ((allO n).take k) (fun p => rowG (val V) n p x) ∧ tL ((allO n).take k) (fun p => rowG (val V) n p x) ≤ 2000000000 := fun x => by
      have h := tL_bd (L := (allO n).take k) (φ := fun p => rowG (val V) n p x) (B := 2000000) (fun p _ => row_bd g p x)
      have hlT : ((allO n).take k).length ≤ 720 := by have := allO_le h1 h6; rw [List.length_take]; omega
      omega
    have hS : FN (k + 1) = fnL n (fun y => tL ((allO n).take k) (fun p => rowG (val V) n p y) + rowG (val V) n ((allO n).getD k []) y) := by
      rw [hFN]
      refine fnL_congr n (fun j hj => ?_)
      have e : (allO n).take (k + 1) = (allO n).take k ++ [(allO n).getD k []] := by
        rw [List.take_add_one, List.getD_eq_getElem?_getD, List.getElem?_eq_getElem hk]
        rfl
      rw [e, tL_append, tL_cons]
      simp [tL]
    rw [hS]
    rw [hFN] at ho
    exact woCon_any g hlm hpk _ hB a ap c cp cs B b W hrv hrp ho
  have HRES : Hid (FN (allO n).length = shL n V) := by
    show _ = _
    rw [hFN, List.take_of_length_le (Nat.le_refl _)]
    rfl
  have H0 : Hid (FN 0 = fnL n fun _ => 0) := hFN 0
  clear hFN
  have hll := shL_len n V
  have hlp : 0 < (allO n).length := by rw [allO_len h1 h6]; exact fact_ge n
  have hl7 := allO_le h1 h6
  have HAL : Hid (∀ k, k < (allO n).length → ((allO n).getD k []).length = n) := fun k hk => perm_len (mem_allO.1 (memR hk))
  have HR := Lib.hid hr
  generalize shL n V = RES at *
  clear g hr hlm
  go_enter Try.func49, Try.ntmps49
  go_wp2_with fail
  refine HC.out.mono ?_
  rintro e w1 ⟨rfl, rfl⟩
  clear HC
  go_wp2_with fail
  refine QA.out.mono ?_
  rintro e w2 ⟨v2, vs, rfl, o2, el, hb2⟩
  obtain ⟨g2, c2, rfl, _, _⟩ := o2.form hlp
  have hs2 := hb2.size
  have own0 := own_lit w2 3 (List.replicate n 0) (zeros n) rfl (by unfold maxLen; simp; omega)
  rw [List.length_replicate, zeroL n, ← H0.out] at own0
  have own1 := own_mono own0 hs2
  clear own0
  have b23 : Below w2.heap.size w2 (w2.alloc (.cells (zeros n) 3)) := (Below.refl _ _).alloc (Nat.le_refl _) _
  have hb3 : Below w.heap.size w (w2.alloc (.cells (zeros n) 3)) := hb2.alloc hs2 _
  have HO2 := Lib.hid o2
  have EL := Lib.hid el
  have hlt2 : g2 < w2.heap.size := (o2.lt g2 rfl).2
  have B23 := Lib.hid b23
  clear QA H0 o2 el b23
  generalize allO n = L at *
  go_wp2_with fail
  clear hmk
  obtain ⟨w3, hw3⟩ : ∃ w3, w3 = w2.alloc (.cells (zeros n) 3) := ⟨_, rfl⟩
  rw [← hw3] at own1 hb3 B23 ⊢
  clear hw3
  obtain ⟨b, hb⟩ : ∃ b, b = w2.heap.size := ⟨_, rfl⟩
  rw [← hb] at own1 hlt2 hs2 B23 ⊢
  have hsb : b ≤ w3.heap.size := by rw [hb]; exact B23.out.size
  have hbz : w2.heap.size ≤ b := Nat.le_of_eq hb.symm
  clear hb
  go_loopw [30] (fun iv wr => ∃ s : Nat, s ≤ L.length ∧ iv = .int .i64 s ∧ wr.ownsRow w.heap.size 3 1 (.slice (some ⟨b, 0, none⟩) n n) n (I (FN s)) ∧ w3.grownBy wr (some b)) (fun iv _ => L.length - (intOf iv).toNat)
  case atStart => exact ⟨0, Nat.zero_le _, rfl, own1, grown_refl _ _⟩
  case round =>
    obtain ⟨s, hs, rfl, own, hgr⟩ := hrel
    clear own1
    by_cases hsL : s < L.length
    · obtain ⟨u, hu, hou⟩ := EL.out.at_ hsL
      rw [HAL.out s hsL] at hou
      obtain ⟨gu, cu, rfl, _, hgu, _, _, _⟩ := own_form hou (by omega)
      have hck : wr.cell? ⟨g2, s, none⟩ = some (.slice (some ⟨gu, 0, none⟩) n cu) := by
        rw [hgr.cell_far _ (by show g2 < _; omega) (by intro e; injection e with e; exact absurd e (by show ¬ g2 = b; omega)), B23.out.cell (by show g2 < _; omega), HO2.out.cellAt s (by omega)]
        exact hu
      have r1 : Rd wr b a m V := ((HR.out.below hb3 (Nat.le_refl _)).more hs2).grown hgr hsb (fun k hk => by injection hk with hk; omega)
      have r2 : Rd wr b (some ⟨gu, 0, none⟩) n (L.getD s []) := (((Rd.of_own hou).more hbz).below B23.out (Nat.le_refl _)).grown hgr hsb (fun k hk => by injection hk with hk; omega)
      have Q := Lib.hid (QC.out wr b w.heap.size n cu s (some ⟨gu, 0, none⟩) hsL r1 r2 own)
      unfold ConOut at Q
      clear r1 r2 hu hou own
      go_wp2_with fail
      with_reducible refine Q.out.mono ?_
      rintro e w4 ⟨⟨u4, rfl⟩, o4, hg4⟩
      have hg5 := grown_trans hgr hg4
      clear Q hgr hg4 hck
      go_wp2
      go_roundw
      case rel => exact ⟨s + 1, by omega, by go_num, o4, hg5⟩
      case measure => simp [intOf]; omega
    · obtain rfl : s = L.length := by omega
      rw [HRES.out] at own
      have hbe := hb3.grown hgr hb3.size (fun y hy => by injection hy with hy; omega)
      go_wp2
      go_ret2
      refine ⟨_, rfl, ?_, hbe⟩
      rw [hll]
      exact own
end Go.Proofs.Ytimjepakdldacaa

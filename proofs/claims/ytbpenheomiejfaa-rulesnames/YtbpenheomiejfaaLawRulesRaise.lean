/-
  plumekeep.RulesRaise returns true, for all ints and every slice of slices of ints, if package rules keeps its contract; nothing that was there is written.
-/
import Derived.Test.YtbpenheomiejfaaLawRulesMay
import Derived.Test.YtbpenheomiejfaaCRaise
import Derived.Test.YtbpenheomiejfaaCContains
import Derived.Test.YtbpenheomiejfaaCFuncI
import Derived.Test.YtbpenheomiejfaaPureB
namespace Go.Proofs.Ytbpenheomiejfaa
open Go.RowKit Fm
set_option linter.unusedVariables false

theorem own_sliceV {w : World} {B n : Nat} {e : TypeId} {v : Value} {xs : List Value} (h : w.ownsRow B e 1 v n xs) : ∃ a c, v = .slice a n c ∧ n ≤ c ∧ c ≤ maxLen ∧ (a = none → c = 0) ∧ (0 < n → ∃ g, a = some ⟨g, 0, none⟩ ∧ B ≤ g) := by
  rcases h.2 with ⟨rfl, rfl⟩ | ⟨g, cap, cur, rfl, h0, _, h1, h2, _⟩
  · exact ⟨none, 0, rfl, Nat.le_refl _, by unfold maxLen; omega, fun _ => rfl, fun h => absurd h (by omega)⟩
  · exact ⟨_, cap, rfl, h1, h2, (fun h => by cases h), fun _ => ⟨g, rfl, h0⟩⟩
theorem box_cell {w : World} {B : Nat} {t : TypeId} {g : Nat} {v : Value} (h : w.ownsRow B t 1 (.slice (some ⟨g, 0, none⟩) 1 1) 1 [v]) : w.cell? ⟨g, 0, none⟩ = some v := by
  have := h.cellAt 0 (by omega)
  simpa using this
theorem Elems.setE {w : World} {B : Nat} {e : TypeId} {vs : List Value} {L : List (List Int)} (h : Elems w B e vs L) {i : Nat} (hi : i < L.length) {u : Value} {l : List Int} (hu : w.ownsRow B e 1 u l.length (I l)) : Elems w B e (vs.set i u) (L.set i l) := by
  refine ⟨by simp [h.1], fun j y hy => ?_⟩
  rw [getD_setR L i j l hi]
  by_cases hij : i = j
  · subst hij
    rw [List.getElem?_set_self (by rw [h.1]; exact hi)] at hy
    injection hy with hy
    subst hy
    rw [if_pos rfl]
    exact hu
  · rw [getElem?_set_ne vs hij] at hy
    rw [if_neg hij]
    exact h.2 j y hy

set_option maxHeartbeats 400000 in
set_option maxRecDepth 100000 in
theorem rraise1_any (y : Int) (WL : List Int) (a : Option Addr) (c g : Nat) (w : World) (hr : Rd w w.heap.size a WL.length WL) (hm : WL.length ≤ 1000000) (hg : w.cell? ⟨g, 0, none⟩ = some (.slice a WL.length c)) :
    Calls Try.prog 24 #[.int .i64 y, .pointer (some ⟨g, 0, none⟩)] w fun e w' => e = .returned (.bool (!decide (y ∈ WL))) ∧ Below w.heap.size w w' := by
  have HR := Lib.hid (contains_any WL y a WL.length c w w.heap.size hr (by omega))
  clear hr
  generalize decide (y ∈ WL) = r at *
  go_enter Try.func24, Try.ntmps24
  go_wp2_with fail
  refine HR.out.mono ?_
  rintro e w' ⟨rfl, rfl⟩
  clear hg HR
  go_wp2
  go_ret
  exact ⟨rfl, Below.refl _ w⟩

set_option maxHeartbeats 4000000 in
set_option maxRecDepth 100000 in
theorem rulesRaise_is (dO : RWinO) (sS : RSole) (r0 : Int) (hr0 : -9223372036854775808 ≤ r0) (hr1 : r0 ≤ 9223372036854775807) (n0 : Int) (hn0 : -9223372036854775808 ≤ n0) (hn1 : n0 ≤ 9223372036854775807) (v : Value) (L : List (List Int)) {w : World} (f : IsRows w v L) (i0 : Int) (hi0 : -9223372036854775808 ≤ i0) (hi1 : i0 ≤ 9223372036854775807) :
    Calls Try.prog 5 #[.int .i64 r0, .int .i64 n0, v, .int .i64 i0] w fun e w' => e = .returned (.bool true) ∧ Below w.heap.size w w' := by
  have dW : RWin := fun rule n a m c V w ti hk => (dO rule n a m c V w ti hk).mono fun _ _ h => h.ints
  obtain ⟨a, c, rfl, hr, hall, hlc, _, hcm, h24⟩ := f
  have HR := Lib.hid hr
  have HO : Hid (∀ l ∈ L, ∀ x ∈ l, Ok64 x) := fun l hl => (hall l hl).1
  have W0 : Hid (∀ W, Calls Try.prog 16 #[] W fun e w' => e = .returned (.bool true) ∧ Below W.heap.size W w') := fun W => winners0_any dW sS W
  have DW : Hid RWinO := dO
  clear hr hall dW dO sS h24
  go_enter Try.func5, Try.ntmps5
  go_wp2_with fail
  refine (W0.out w).mono ?_
  rintro e w1 ⟨rfl, hb1⟩
  clear W0
  go_wp2_with fail
  refine (within_any r0 4 w1 hr0 hr1 (by omega) (by omega)).mono ?_
  rintro e w1' ⟨rfl, rfl⟩
  obtain ⟨rule, hrule⟩ : ∃ rule : Int, 1 + r0 % 4 = rule := ⟨_, rfl⟩
  have h1 : 1 ≤ rule := by omega
  have h4 : rule ≤ 4 := by omega
  have e5 : r0 % 4 = rule - 1 := by omega
  rw [e5]
  have er : 1 + (rule - 1) = rule := by omega
  clear hrule e5 hr0 hr1
  go_wp2_with fail
  refine (within_any n0 6 w1 hn0 hn1 (by omega) (by omega)).mono ?_
  rintro e w1' ⟨rfl, rfl⟩
  obtain ⟨n, hn⟩ : ∃ n : Nat, 1 + n0 % 6 = n := ⟨(1 + n0 % 6).toNat, by omega⟩
  have hn1' : 1 ≤ n := by omega
  have h6 : n ≤ 6 := by omega
  have e6 : n0 % 6 = (n : Int) - 1 := by omega
  rw [e6]
  have en : 1 + ((n : Int) - 1) = n := by omega
  clear hn e6 hn0 hn1
  go_wp2_with fail
  refine (votesOf_any n a L.length c L w1 (rdr_ext HR.out hb1) hlc hcm hn1' h6 HO.out).mono ?_
  rintro e w2 ⟨v2, vs, rfl, ov, el, hb2⟩
  have hb02 := ext_trans hb1 hb2
  have HV30 := votesOf_len n L
  have HP := Lib.hid (fun p (hp : p ∈ votesOf n L) => votesOf_mem hp)
  have HOK := Lib.hid (votesOf_v0 hn1' h6 L)
  have ov1 := own_mono ov hb1.size
  have el1 := el.mono hb1.size
  generalize votesOf n L = V at *
  have hV30 : V.length ≤ 30 := by omega
  obtain ⟨va, vc, rfl, hvc, hvm, hvz, hvg⟩ := own_sliceV ov1
  have RV := Lib.hid (RdR.of_own ov1 rfl el1)
  clear ov el HV30 hb1 hb2 HR HO hlc hcm
  have HOV := Lib.hid ov1
  have HEL := Lib.hid el1
  clear ov1 el1
  have HRC : Hid (rchk rule n V = 0) := rchk_of h1 (by omega) HOK.out
  have TI := Lib.hid (tabIn_smallW RV.out (by omega) (perm_len HP.out h6))
  have QW := Lib.hid (DW.out rule n va V.length vc V w2 TI.out HRC.out)
  have hwp := winL_pos rule hn1' V
  have hwl := winL_le rule hn1' V
  obtain ⟨WL, hWL⟩ : ∃ WL, winL rule n V = WL := ⟨_, rfl⟩
  rw [hWL] at QW hwp hwl
  have HWL := Lib.hid hWL
  clear hWL
  go_wp2_with fail
  refine QW.out.mono ?_
  rintro e w3 ⟨v3, rfl, o3, hb3⟩
  clear QW
  obtain ⟨g3, c3, rfl, hg3, _, _, _, hc3⟩ := own_form o3 hwp
  have hc30 := hc3 0 hwp
  have hba : Below w3.heap.size w3 (w3.alloc (.cells #[.slice (some ⟨g3, 0, none⟩) WL.length c3] 23)) := (Below.refl _ w3).alloc (Nat.le_refl _) _
  have HBX := Lib.hid (own_mono (own_box w3 23 (.slice (some ⟨g3, 0, none⟩) WL.length c3)) hb3.size)
  have HO3 := Lib.hid (own_below o3 hba (Nat.le_refl _))
  have hb24 := ext_trans hb3 hba
  have HB24 := Lib.hid hb24
  have HB04 := Lib.hid (ext_trans hb02 hb24)
  have hg3w : g3 < w3.heap.size := (o3.lt g3 rfl).2
  have hc30' : (w3.alloc (.cells #[.slice (some ⟨g3, 0, none⟩) WL.length c3] 23)).cell? ⟨g3, 0, none⟩ = some (.int .i64 (WL.getD 0 0)) := (World.cell?_alloc_lt w3 _ ⟨g3, 0, none⟩ hg3w).trans hc30
  clear o3 hb3 hba hb24 hc3 hc30
  have hwi : ¬ ((WL.length : Int) = 0) := by omega
  have hwb : ((WL.length : Int) == 0) = false := beq_eq_false_iff_ne.2 (by omega)
  by_cases hV0 : V.length = 0
  · have e0 : V = [] := List.eq_nil_of_length_eq_zero hV0
    have hWn : WL.length = n := by rw [← HWL.out, e0]; exact none_win h1 h4 n
    have HB4 := HB04.out
    have hvb : ((V.length : Int) == 0) = true := beq_iff_eq.2 (by omega)
    have hnb : ((WL.length : Int) == (n : Int)) = true := beq_iff_eq.2 (by omega)
    clear hWn hV0 e0 hwl hwp hwi
    go_wp2
    go_ret
    exact ⟨rfl, HB4⟩
  · have hvb : ((V.length : Int) == 0) = false := beq_eq_false_iff_ne.2 (by omega)
    obtain ⟨gv, rfl, hgv⟩ := hvg (by omega)
    have hxm : WL.getD 0 0 ∈ WL := getD_mem WL 0 hwp
    have hxr : 0 ≤ WL.getD 0 0 ∧ WL.getD 0 0 < n := by
      have h := hxm
      rw [← HWL.out, winL_score h1 h4] at h
      have := greatest_rng h
      rw [scoreL_len, ← winL_score h1 h4, HWL.out] at this
      exact this
    obtain ⟨x, hx⟩ : ∃ x : Nat, WL.getD 0 0 = x := ⟨(WL.getD 0 0).toNat, by omega⟩
    rw [hx] at hc30' hxm hxr
    have hxn : x < n := by omega
    have HXM := Lib.hid hxm
    clear hx hxm hxr
    obtain ⟨g10, hg10⟩ : ∃ g10, g10 = w3.heap.size := ⟨_, rfl⟩
    have hw1i : (0 : Int) < (WL.length : Int) := by omega
    have hgv2 : gv < w2.heap.size := (HOV.out.lt gv rfl).2
    go_wp2_with fail
    rw [← hg10] at HBX ⊢
    generalize w3.alloc (.cells #[.slice (some ⟨g3, 0, none⟩) WL.length c3] 23) = w4 at *
    clear hg10 hc30' hg3w
    refine (within_any i0 V.length w4 hi0 hi1 (by omega) (by omega)).mono ?_
    rintro e w4' ⟨rfl, rfl⟩
    obtain ⟨i, hi⟩ : ∃ i : Nat, i0 % (V.length : Int) = i := ⟨(i0 % (V.length : Int)).toNat, by have := Int.emod_nonneg i0 (show (V.length : Int) ≠ 0 by omega); omega⟩
    have hiV : i < V.length := by have := Int.emod_lt_of_pos i0 (show (0 : Int) < V.length by omega); omega
    rw [hi]
    clear hi hi0 hi1
    have ov4 := own_below HOV.out HB24.out (Nat.le_refl _)
    have el4 := HEL.out.below HB24.out (Nat.le_refl _)
    obtain ⟨u, hu, hou⟩ := el4.at_ hiV
    obtain ⟨ap, cp, rfl, hcp1, hcp2⟩ := own_slice hou
    have hperm := HP.out _ (memR hiV)
    have hpl : (V.getD i []).length = n := by have := hperm.length_eq; rwa [sides_len] at this
    rw [hpl] at hou hu hcp1
    have hcu : w4.cell? ⟨gv, i, none⟩ = some (.slice ap n cp) := by rw [ov4.cellAt i (by omega)]; exact hu
    have hchk : chk n (V.getD i []) = 0 := (vchk_zero HOK.out).2.2 _ (memR hiV)
    have RP := Lib.hid (Rd.of_own hou)
    have hxmem : (x : Int) ∈ V.getD i [] := hperm.mem_iff.2 (mem_sides.2 ⟨by omega, by omega⟩)
    obtain ⟨k, hk, hkx⟩ := List.getElem_of_mem hxmem
    have hkx' : (V.getD i []).getD k 0 = (x : Int) := by rw [getD_get hk]; exact hkx
    have hkn : k < n := by omega
    have hiVi : (i : Int) < (V.length : Int) := by omega
    have HOV4 := Lib.hid ov4
    have HEL4 := Lib.hid el4
    clear hkx hxmem hou hu ov4 el4 hk
    cases k with
    | zero =>
      have QR := Lib.hid (raise_first (V.getD i []) x ap n cp w4 w4.heap.size (Nat.le_refl _) RP.out hchk hkn hkx')
      have HB4 := HB04.out
      clear hkx' hchk hperm hpl
      go_wp2_with fail
      refine QR.out.mono ?_
      rintro e w5 ⟨rfl, hb5⟩
      have hbe := ext_trans HB4 hb5
      clear QR HB4 hb5 hcu
      go_wp2
      go_ret
      exact ⟨rfl, hbe⟩
    | succ k =>
      have QR := Lib.hid (raise_hit (V.getD i []) x ap n cp w4 w4.heap.size (Nat.le_refl _) RP.out k hchk hkn hkx')
      have HUP := Lib.hid (up_swp HP.out hiV hkn hkx')
      have hsp : (swp (V.getD i []) k).Perm (sides n) := (swp_perm _ k (by omega)).trans hperm
      have hsl : (swp (V.getD i []) k).length = n := by rw [swp_len, hpl]
      have HSL := Lib.hid hsl
      have HVL : Hid ((V.set i (swp (V.getD i []) k)).length = V.length) := by show _ = _; simp
      have HP' : Hid (∀ q ∈ V.set i (swp (V.getD i []) k), q.Perm (sides n)) := fun q hq => by
        rcases List.mem_or_eq_of_mem_set hq with h | h
        · exact HP.out q h
        · rw [h]; exact hsp
      clear hkx' hchk hperm hpl hsp hsl
      generalize swp (V.getD i []) k = q at *
      go_wp2_with fail
      refine QR.out.mono ?_
      rintro e w5 ⟨g5, cap5, rfl, hn5, o5, hb5⟩
      have ov5 := own_below HOV4.out hb5 (Nat.le_refl _)
      have el5 := HEL4.out.below hb5 (Nat.le_refl _)
      have hcu5 : w5.cell? ⟨gv, i, none⟩ = some (.slice ap n cp) := by
        rw [hb5.cell]
        · exact hcu
        · show gv < _
          exact (HOV4.out.lt gv rfl).2
      have hfu5 : w5.frozen? ⟨gv, i, none⟩ = false := ov5.frozenAt i
      obtain ⟨s6, gr6⟩ := ov5.stored i (.slice (some ⟨g5, 0, none⟩) n cap5)
      have o5' : w5.ownsRow w.heap.size 3 1 (.slice (some ⟨g5, 0, none⟩) n cap5) q.length (I q) := by
        rw [HSL.out]
        exact own_mono o5 HB04.out.size
      have hkind : ∀ y, Value.ownBlock (.slice (some ⟨gv, 0, none⟩) V.length vc) = some y → y < w.heap.size ∨ ∃ c t, w5.heap[y]? = some (.cells c t (0, 0)) ∧ t ≠ 3 := fun y hy => by
        obtain ⟨c, hc⟩ := own_kind ov5 hy
        exact .inr ⟨c, _, hc, by decide⟩
      have el6 := Elems.setE (el5.kept gr6 hkind) (i := i) hiV (o5'.kept gr6 (own_far ov5 o5' (by decide)))
      have hgv4 := (HOV4.out.lt gv rfl)
      have hb06 := (ext_trans HB04.out hb5).grown gr6 (ext_trans HB04.out hb5).size (fun y hy => by injection hy with hy; subst hy; exact hgv4.1)
      have r6 : RdR (w5.setCell ⟨gv, i, none⟩ (.slice (some ⟨g5, 0, none⟩) n cap5)) (w5.setCell ⟨gv, i, none⟩ (.slice (some ⟨g5, 0, none⟩) n cap5)).heap.size (some ⟨gv, 0, none⟩) V.length (V.set i q) := RdR.of_own (by simpa using s6) HVL.out el6
      have hg3' : gv ≠ g3 := by have := (HO3.out.lt g3 rfl).1; omega
      have hg10' : gv ≠ g10 := by have := (HBX.out.lt g10 rfl).1; omega
      have HO6 := Lib.hid ((own_below HO3.out hb5 (Nat.le_refl _)).kept gr6 (.inr (by simp [Value.ownBlock]; omega)))
      have HBX6 := Lib.hid ((own_below HBX.out hb5 (Nat.le_refl _)).kept gr6 (.inr (by simp [Value.ownBlock]; omega)))
      have R6 := Lib.hid r6
      have HB06 := Lib.hid hb06
      clear QR HO3 HBX HOV4 HEL4 ov5 el5 s6 gr6 o5' hkind el6 hgv4 hb06 r6 o5 hb5 hcu HB24 HB04 RP RV TI HOV HEL
      have hp30 : V.length ≤ 30 := hV30
      obtain ⟨V', hV'⟩ : ∃ V', V.set i q = V' := ⟨_, rfl⟩
      rw [hV'] at R6 HVL HP' HUP
      have HQ : Hid (∀ W, RdR W W.heap.size (some ⟨gv, 0, none⟩) V.length V' → Calls Try.prog 11 #[.int .i64 rule, .int .i64 n, .slice (some ⟨gv, 0, none⟩) V.length vc] W (OwnOut (winL rule n V') W)) := fun W hW =>
        DW.out rule n (some ⟨gv, 0, none⟩) V.length vc V' W (tabIn_smallW hW (by omega) (perm_len HP'.out h6)) (rchk_of h1 (by omega) (perm_vchk hn1' h6 (by rw [HVL.out]; exact hp30) HP'.out))
      have hxw : (x : Int) ∈ winL rule n V := by rw [HWL.out]; exact HXM.out
      have hup := up_win h1 h4 hxn HP.out HP'.out HUP.out hxw
      have hwl' := winL_le rule hn1' V'
      have HU1 := Lib.hid hup.1
      have HU2 : Hid ((winL rule n V').any (fun y => !decide (y ∈ WL)) = false) := by
        show _ = _
        rw [List.any_eq_false]
        intro y hy
        have := hup.2 y hy
        rw [HWL.out] at this
        simp [this]
      clear hup hxw hV' HUP HP HP' HXM
      generalize winL rule n V' = WL' at *
      go_wp2_with fail
      generalize w5.setCell ⟨gv, i, none⟩ (.slice (some ⟨g5, 0, none⟩) n cap5) = w6 at *
      clear hcu5 hfu5
      refine (HQ.out w6 R6.out).mono ?_
      rintro e w7 ⟨v7, rfl, o7, hb7⟩
      obtain ⟨a7, c7, rfl, _, _⟩ := own_slice o7
      have R7 := Lib.hid (Rd.of_own o7)
      have hb07 := ext_trans HB06.out hb7
      have HO7 := Lib.hid (own_below HO6.out hb7 (Nat.le_refl _))
      have HBX7 := Lib.hid (own_below HBX6.out hb7 (Nat.le_refl _))
      clear HQ R6 HO6 HBX6 o7 hb7 HB06
      go_wp2_with fail
      refine (contains_q WL' x a7 WL'.length c7 w7 w7.heap.size R7.out (by omega) true (by simpa using HU1.out)).mono ?_
      rintro e w7' ⟨rfl, rfl⟩
      have hT : Tells 24 #[.pointer (some ⟨g10, 0, none⟩)] WL' (fun y => !decide (y ∈ WL)) w7' := fun y hy W hW =>
        rraise1_any y WL (some ⟨g3, 0, none⟩) c3 g10 W (rd_ext (Rd.of_own HO7.out) hW) (by omega) (box_cell (own_below HBX7.out hW (Nat.le_refl _)))
      have HCF := Lib.hid (containsFuncI_any 24 (fun _ _ => rfl) #[.pointer (some ⟨g10, 0, none⟩)] (fun y => !decide (y ∈ WL)) a7 WL'.length c7 WL' w7' w7'.heap.size (Nat.le_refl _) R7.out (by omega) hT)
      rw [HU2.out] at HCF
      clear hT
      go_wp2_with fail
      refine HCF.out.mono ?_
      rintro e w8 ⟨rfl, hb8⟩
      have hbe := ext_trans hb07 hb8
      clear HCF hb8 hb07
      go_wp2
      go_ret
      exact ⟨rfl, hbe⟩
end Go.Proofs.Ytbpenheomiejfaa

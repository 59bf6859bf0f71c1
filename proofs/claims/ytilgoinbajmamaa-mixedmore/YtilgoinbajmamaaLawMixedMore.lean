/-
  plumekeep.MixedMore returns true, for every slice of slices of ints and two ints, if mixed.Solve keeps its contract; nothing that was there is written.
-/
import Derived.Test.YtilgoinbajmamaaCMixes
import Derived.Test.YtilgoinbajmamaaMixIn
import Derived.Test.YtilgoinbajmamaaMoreMath
import Derived.Test.YtilgoinbajmamaaRowsL
import Derived.Test.YtilgoinbajmamaaSqPay
import Derived.Test.YtilgoinbajmamaaCWithin
import Derived.Test.YtilgoinbajmamaaCClone
import Derived.Test.YtilgoinbajmamaaCDelete
import Derived.Test.YtilgoinbajmamaaPush
import Derived.Test.YtilgoinbajmamaaPushS
import Derived.BigQuiet
import Derived.Deep.QuietTactic
import Derived.Deep.DeepMust
namespace Go.Proofs.Ytilgoinbajmamaa
open Go.RowKit Fm
set_option linter.unusedVariables false

theorem apart_next {w : World} {B m g : Nat} {e : TypeId} {u v : Value} {us : List Value} (hu : w.ownsRow B e 1 u m us) (h : u.ownBlock = none ∨ u.ownBlock ≠ v.ownBlock) (hd : v.ownBlock = some g ∨ w.heap.size < g) : u.ownBlock = none ∨ u.ownBlock ≠ some g := by
  cases e : u.ownBlock with
  | none => exact .inl rfl
  | some z =>
    right
    have hz := (hu.lt z e).2
    rcases hd with hd | hd
    · rcases h with h | h
      · rw [e] at h; cases h
      · rw [e, hd] at h; exact h
    · intro q
      injection q with q
      omega
theorem apart_turn {u v : Option Nat} (h : u = none ∨ u ≠ v) : v = none ∨ v ≠ u := by
  rcases h with h | h
  · cases hv : v with
    | none => exact .inl rfl
    | some z => right; rw [h]; intro e; cases e
  · exact .inr (fun e => h e.symm)
theorem tab_of {w : World} {a : Option Addr} {n : Nat} {L : List (List Int)} (h : RdR w w.heap.size a n L) (hn : n ≤ 6) (hl : ∀ l ∈ L, l.length ≤ 6) : TabIn w a n L :=
  ⟨w.heap.size, Nat.le_refl _, h, by omega, fun l hm => by have := hl l hm; omega⟩

set_option maxHeartbeats 8000000 in
set_option maxRecDepth 100000 in
theorem mixedMore_is (mE : MSolveE) (mS : MSolve) (v : Value) (L : List (List Int)) {w : World} (f : IsRows w v L) (i0 : Int) (hi0 : -9223372036854775808 ≤ i0) (hi1 : i0 ≤ 9223372036854775807) (k0 : Int) (hk0 : -9223372036854775808 ≤ k0) (hk1 : k0 ≤ 9223372036854775807) :
    Calls Try.prog 7 #[v, .int .i64 i0, .int .i64 k0] w fun e w' => e = .returned (.bool true) ∧ Below w.heap.size w w' := by
  obtain ⟨a, c, rfl, hr, hall, hlc, _, hcm, h24⟩ := f
  have W0 := Lib.hid (mixes_any mS w)
  have Q2 : Hid (∀ W, Below w.heap.size w W → Calls Try.prog 12 #[.slice a L.length c] W fun e w' => e = .returned (.slice a (min L.length 2) c) ∧ W = w') := fun W hW => two_any a L.length c L W (rdr_ext hr hW) (by omega) hlc (by unfold maxLen at hcm; omega)
  have HT := Lib.hid (cut_in hr h24 hall).2
  have HRR := Lib.hid (cut_in hr h24 hall).1
  have hgd := ratioGuard
  have h00 : ∀ w, (Op.equalIn 10000 24 (.agg #[.int .i64 0, .int .i64 0]) (.agg #[.int .i64 0, .int .i64 0])).run Try.prog w = .ok true w := fun w => by rw [ratioIn]; rfl
  clear hr hall h24
  generalize L.take (min L.length 2) = M at *
  generalize min L.length 2 = n at *
  go_enter Try.func7, Try.ntmps7
  go_wp2_with fail
  refine W0.out.mono ?_
  rintro e w2 ⟨rfl, hb02⟩
  clear W0
  go_wp2_with fail
  refine (Q2.out w2 hb02).mono ?_
  rintro e w2' ⟨rfl, rfl⟩
  clear Q2
  by_cases h0 : mxchk M = 0
  · obtain ⟨_, p⟩ := mxchk_ok h0
    obtain ⟨k, hk⟩ : ∃ k, (M.getD 0 []).length = k := ⟨_, rfl⟩
    rw [hk] at p
    have HPAY := Lib.hid p
    have k1 := p.k1
    have k6 := p.k6
    have hM2 := p.len
    have QS := Lib.hid (mS k a n c M w2 (HT.out.below hb02) p)
    have QE := Lib.hid mE
    have QS2 := Lib.hid mS
    clear h0 hk mE mS h00
    go_wp2_with fail
    refine QS.out.mono ?_
    rintro e w3 ⟨P, Q, V, W, hs, rfl, hb3⟩
    have hb03 := ext_trans hb02 hb3
    obtain ⟨u1, u2, u3, u4, hsz, hbx⟩ := boxes2 w3 24 P Q V W
    have hb04 := ext_trans hb03 hbx
    have l5 := sol_bd hs p
    have w1' := hs.w1
    have wb' := hs.wb
    have HSOL := Lib.hid hs
    obtain ⟨hnn, b, o, rfl, hbb, hsq⟩ := rdr_sqP HRR.out p
    subst hnn
    have HSQ := Lib.hid hsq
    obtain ⟨b0, o0, c0, hb0, hr0, hkc0, hcm0, hc0⟩ := hsq 0 (by omega)
    rw [Nat.add_zero] at hr0
    have s0 := (hb04.cell (p := ⟨b, o, none⟩) (by exact hbb)).trans hr0
    -- by and k
    obtain ⟨cc, hcc⟩ : ∃ cc : Int, i0 % 50 = cc + 25 := ⟨i0 % 50 - 25, by omega⟩
    have hcc1 : -25 ≤ cc := by omega
    have hcc2 : cc ≤ 24 := by omega
    obtain ⟨j, hj⟩ : ∃ j : Nat, k0 % (k : Int) = j := ⟨(k0 % (k : Int)).toNat, by have := Int.emod_nonneg k0 (show (k : Int) ≠ 0 by omega); omega⟩
    have hjk : j < k := by have := Int.emod_lt_of_pos k0 (show (0 : Int) < (k : Int) by omega); omega
    have HJ := Lib.hid hj
    have HCC := Lib.hid hcc
    have z04 := hb04.size
    clear QS hb3 hb03 hbx hs p hb02 hsq hj hcc hr0 hc0 HT
    go_wp2_with fail
    generalize (w3.alloc (.cells #[.int .i64 P, .int .i64 Q] 24)).alloc (.cells #[.int .i64 V, .int .i64 W] 24) = w4 at *
    generalize w3.heap.size = g at *
    refine (within_any i0 50 w4 hi0 hi1 (by omega) (by omega)).mono ?_
    rintro e w5' ⟨rfl, rfl⟩
    rw [HCC.out]
    have e7 : cc + 25 - 25 = cc := by omega
    clear hi0 hi1 HCC
    go_wp2_with fail
    refine (within_any k0 (k : Int) w4 hk0 hk1 (by omega) (by omega)).mono ?_
    rintro e w5' ⟨rfl, rfl⟩
    rw [HJ.out]
    clear HJ hk0 hk1 e7
    have H4 := Lib.hid hb04
    have ADN : Hid (∀ x, x < 2 → addT cc (M.take x) ++ [(M.getD x []).map fun y => y + cc] = addT cc (M.take (x + 1))) := fun x hx => addT_take (by omega)
    have DEN : Hid (∀ x, x < 2 → delT j (M.take x) ++ [(M.getD x []).eraseIdx j] = delT j (M.take (x + 1))) := fun x hx => delT_take (by omega)
    have HROW : Hid (∀ x, x < 2 → (M.getD x []).length = k) := fun x hx => HPAY.out.row hx
    have HRX : Hid (∀ x y, x < 2 → y < k → ((M.getD x []).take y).map (fun z => z + cc) ++ [ent M x y + cc] = ((M.getD x []).take (y + 1)).map fun z => z + cc) := fun x y hx hy => by
      have hl := HROW.out x hx
      rw [List.take_add_one, List.map_append]
      unfold ent
      rw [List.getD_eq_getElem?_getD (i := y), List.getElem?_eq_getElem (by omega)]
      rfl
    have HEB : Hid (∀ x y, -1000 ≤ ent M x y ∧ ent M x y ≤ 1000) := HPAY.out.ent
    obtain ⟨AD, hAD⟩ : ∃ AD : Nat → List (List Int), ∀ x, addT cc (M.take x) = AD x := ⟨_, fun _ => rfl⟩
    obtain ⟨DE, hDE⟩ : ∃ DE : Nat → List (List Int), ∀ x, delT j (M.take x) = DE x := ⟨_, fun _ => rfl⟩
    have HA0 : Hid (AD 0 = [] ∧ DE 0 = []) := ⟨by rw [← hAD]; rfl, by rw [← hDE]; rfl⟩
    have HA2 : Hid (AD 2 = addT cc M ∧ DE 2 = delT j M) := ⟨by rw [← hAD, List.take_of_length_le (by omega)], by rw [← hDE, List.take_of_length_le (by omega)]⟩
    have ADX : Hid (∀ x, x < 2 → AD x ++ [(M.getD x []).map fun y => y + cc] = AD (x + 1)) := fun x hx => by rw [← hAD, ← hAD]; exact ADN.out x hx
    have DEX : Hid (∀ x, x < 2 → DE x ++ [(M.getD x []).eraseIdx j] = DE (x + 1)) := fun x hx => by rw [← hDE, ← hDE]; exact DEN.out x hx
    clear ADN DEN hAD hDE hb04
    go_wp2_with fail
    go_loopw [10, 11, 49] (fun mv lv iv wr => ∃ x : Nat, x ≤ 2 ∧ iv = .int .i64 x ∧ Hid (RL wr w4.heap.size mv x (AD x)) ∧ Hid (RL wr w4.heap.size lv x (DE x)) ∧ Hid (lv.ownBlock = none ∨ lv.ownBlock ≠ mv.ownBlock) ∧ Below w4.heap.size w4 wr) (fun _ _ iv _ => 2 - (intOf iv).toNat)
    case atStart => exact ⟨0, by omega, rfl, (show Hid _ from by rw [HA0.out.1]; exact RL.nil_ _ _), (show Hid _ from by rw [HA0.out.2]; exact RL.nil_ _ _), (show Hid _ from .inl rfl), Below.refl _ w4⟩
    case round =>
      obtain ⟨x, hx, rfl, RM, RS, HAP, hbel⟩ := hrel
      by_cases hx2 : x < 2
      · obtain ⟨b', o', c', hb', hr', hkc', hcm', hc'⟩ := HSQ.out x hx2
        have hbF := H4.out.trans (hbel.mono z04)
        have r1 := (hbF.cell (p := ⟨b, o + x, none⟩) (by exact hbb)).trans hr'
        have HC' : Hid (∀ y, y < k → wr.cell? ⟨b', o' + y, none⟩ = some (.int .i64 (ent M x y))) := fun y hy => (hbF.cell (p := ⟨b', o' + y, none⟩) (by exact hb')).trans (hc' y hy)
        have hz4 := hbel.size
        have HRXx := Lib.hid (fun y hy => HRX.out x y hx2 hy)
        have HEBx := Lib.hid (fun y => HEB.out x y)
        have HRD : Hid (Rd w w.heap.size (some ⟨b', o', none⟩) k (M.getD x [])) := ⟨HROW.out x hx2, fun _ => ⟨b', o', rfl, hb', hc'⟩⟩
        have HAX := Lib.hid (ADX.out x hx2)
        have HDX := Lib.hid (DEX.out x hx2)
        have HLX := Lib.hid (HROW.out x hx2)
        have HBF := Lib.hid hbF
        obtain ⟨wo, rfl⟩ : ∃ wo, wo = wr := ⟨_, rfl⟩
        have hbw : b' < wo.heap.size := by omega
        have d1 : decide ((x : Int) < 2) = true := decide_eq_true (by omega)
        clear hr' hc' hbF
        go_wp2_with fail
        go_loopw [14, 55] (fun rv iv wr => ∃ y : Nat, y ≤ k ∧ iv = .int .i64 y ∧ wr.ownsRow wo.heap.size 3 1 rv y (I (((M.getD x []).take y).map fun z => z + cc)) ∧ Below wo.heap.size wo wr) (fun _ iv _ => k - (intOf iv).toNat)
        case atStart => exact ⟨0, Nat.zero_le _, rfl, ⟨rfl, .inl ⟨rfl, rfl⟩⟩, Below.refl _ wo⟩
        case round =>
          obtain ⟨y, hy, rfl, own, hb5⟩ := hrel
          have hz := hb5.size
          by_cases hyk : y < k
          · have r2 := (hb5.cell (p := ⟨b', o' + y, none⟩) (by exact hbw)).trans (HC'.out y hyk)
            obtain ⟨e1, e2⟩ := HEBx.out y
            have HN := Lib.hid (HRXx.out y hyk)
            generalize ent M x y = z at *
            generalize hq : ((M.getD x []).take y).map (fun z => z + cc) = q at *
            clear hq
            go_wp2_with (at_builtin; go_must (refine push1 rfl _ _ rfl wr wo.heap.size _ y q (z + cc) rfl rfl (by exact own) hz (by omega) ?_))
            intro g6 cap6 w6 own6 hgr _ _
            have hb6 := hb5.grown hgr hz (fun y hy => (own.lt _ hy).1)
            rw [HN.out] at own6
            clear own hgr hb5 r2
            go_wp2
            go_roundw
            case rel => exact ⟨y + 1, by omega, by go_num, own6, hb6⟩
            case measure => simp [intOf]; omega
          · obtain rfl : y = k := by omega
            rw [List.take_of_length_le (by rw [HLX.out]; exact Nat.le_refl _)] at own
            obtain ⟨ra, rc, rfl, _, _⟩ := own_slice own
            obtain ⟨vs, v1, v2, v3⟩ := RM.out.below hb5
            obtain ⟨us, x1, x2, x3⟩ := RS.out.below hb5
            have HO := Lib.hid own
            have V23 := Lib.hid (show _ ∧ _ from ⟨v2, v3⟩)
            have X123 := Lib.hid (show _ ∧ _ ∧ _ from ⟨x1, x2, x3⟩)
            clear own v2 v3 x1 x2 x3 RM RS r1
            go_wp2_with (at_builtin; go_must (refine pushS rfl _ _ rfl wr w4.heap.size _ x vs ra y rc rfl rfl (by exact v1) (by omega) (by omega) ?_))
            intro g7 cap7 w7 hv7 hg7 hd7 hl7
            have o1 : wr.ownsRow w4.heap.size 3 1 (.slice ra y rc) ((M.getD x []).map fun z => z + cc).length (I ((M.getD x []).map fun z => z + cc)) := by rw [List.length_map, HLX.out]; exact own_mono HO.out (by omega)
            have RM7 := RL.push v1 V23.out.1 V23.out.2 o1 hg7 hv7
            rw [HAX.out] at RM7
            have RS7 : RL w7 w4.heap.size _ x (DE x) := RL.kept ⟨us, X123.out.1, X123.out.2.1, X123.out.2.2⟩ v1 hg7 HAP.out
            have HAP7 := Lib.hid (apart_turn (apart_next X123.out.1 HAP.out hd7))
            have hb7 : Below w4.heap.size w4 w7 := (hbel.trans (hb5.mono hz4)).grown hg7 (by omega) (fun z hz2 => (v1.lt _ hz2).1)
            have hbF7 := H4.out.trans (hb7.mono z04)
            have z7 := hb7.size
            have HRM7 := Lib.hid RM7
            have HRS7 := Lib.hid RS7
            have QC := Lib.hid (clone_any (M.getD x []) (some ⟨b', o', none⟩) y c' w7 w.heap.size (HRD.out.below hbF7 (Nat.le_refl _)) (by omega))
            clear v1 hv7 hg7 hd7 RM7 RS7 o1 HO V23 X123 hb5 hbel HAP hbF7
            go_wp2_with fail
            refine QC.out.mono ?_
            rintro e w8 ⟨v8, rfl, own8, hb8⟩
            obtain ⟨g8, cap8, rfl, _, _, _, _, _⟩ := own_form own8 (by omega)
            have QD := Lib.hid (delete_own w7.heap.size g8 y cap8 j (M.getD x []) w8 own8 hjk)
            have hz8 := hb8.size
            have hge8 := (own8.lt g8 rfl).1
            clear QC own8
            go_wp2_with fail
            refine QD.out.mono ?_
            rintro e w9 ⟨rfl, own9, hg9⟩
            have hb79 := hb8.grown hg9 hz8 (fun z hz2 => by injection hz2 with hz2; omega)
            obtain ⟨us, x1, x2, x3⟩ := HRS7.out.below hb79
            have RM9 := HRM7.out.below hb79
            have hb9 := hb7.trans (hb79.mono z7)
            have z9 := hb9.size
            have HO9 := Lib.hid own9
            have X23 := Lib.hid (show _ ∧ _ from ⟨x2, x3⟩)
            have HRM9 := Lib.hid RM9
            clear QD hb8 hg9 own9 x2 x3 RM9 hb7 HRM7 HRS7 hb79
            go_wp2_with (at_builtin; go_must (refine pushS rfl _ _ rfl w9 w4.heap.size _ x us (some ⟨g8, 0, none⟩) (y - 1) cap8 rfl rfl (by exact x1) (by omega) (by omega) ?_))
            intro g10 cap10 w10 hv10 hg10 hd10 hl10
            have o2 : w9.ownsRow w4.heap.size 3 1 (.slice (some ⟨g8, 0, none⟩) (y - 1) cap8) ((M.getD x []).eraseIdx j).length (I ((M.getD x []).eraseIdx j)) := by
              rw [List.length_eraseIdx, if_pos (by rw [HLX.out]; exact hjk), HLX.out]
              exact own_mono HO9.out (by omega)
            have RS10 := RL.push x1 X23.out.1 X23.out.2 o2 hg10 hv10
            rw [HDX.out] at RS10
            obtain ⟨ws, y1, y2, y3⟩ := HRM9.out
            have RM10 : RL w10 w4.heap.size _ (x + 1) (AD (x + 1)) := RL.kept ⟨ws, y1, y2, y3⟩ x1 hg10 HAP7.out
            have HAP10 := Lib.hid (apart_turn (apart_next y1 HAP7.out hd10))
            have hb10 := hb9.grown hg10 (by omega) (fun z hz2 => (x1.lt _ hz2).1)
            have HRS10 := Lib.hid RS10
            have HRM10 := Lib.hid RM10
            clear x1 hv10 hg10 hd10 RS10 RM10 o2 HO9 X23 HRM9 HAP7 y1 y2 y3 hb9
            go_wp2
            go_roundw
            case rel => exact ⟨x + 1, by omega, by go_num, HRM10, HRS10, HAP10, hb10⟩
            case measure => simp [intOf]; omega
      · obtain rfl : x = 2 := by omega
        rw [HA2.out.1] at RM
        rw [HA2.out.2] at RS
        obtain ⟨vs, v1, _, _⟩ := RM.out
        obtain ⟨us, x1, _, _⟩ := RS.out
        obtain ⟨am, cm, rfl, _, _, _, _⟩ := own_sliceV v1
        obtain ⟨al, cl, rfl, _, _, _, _⟩ := own_sliceV x1
        have hz4 := hbel.size
        have TM : Hid (TabIn wr am 2 (addT cc M)) := tab_of RM.out.rdr (by omega) (fun l hl => by
          unfold addT at hl
          rw [List.mem_map] at hl
          obtain ⟨q, hq, rfl⟩ := hl
          rw [List.length_map, HPAY.out.rows q hq]
          omega)
        have TS : Hid (TabIn wr al 2 (delT j M)) := tab_of RS.out.rdr (by omega) (fun l hl => by
          unfold delT at hl
          rw [List.mem_map] at hl
          obtain ⟨q, hq, rfl⟩ := hl
          have h1 := HPAY.out.rows q hq
          rw [List.length_eraseIdx]
          split <;> omega)
        have hbF := H4.out.trans (hbel.mono z04)
        have y1 := (hbel.cell (p := ⟨g, 0, none⟩) (by show g < _; omega)).trans u1
        have y2 := (hbel.cell (p := ⟨g, 1, none⟩) (by show g < _; omega)).trans u2
        have y3 := (hbel.cell (p := ⟨g + 1, 0, none⟩) (by exact hsz)).trans u3
        have y4 := (hbel.cell (p := ⟨g + 1, 1, none⟩) (by exact hsz)).trans u4
        have hgr : g + 1 < wr.heap.size := by omega
        have HCH := Lib.hid (addT_chk (c := cc) HPAY.out)
        have HCD := Lib.hid (delT_chk HPAY.out hjk)
        obtain ⟨l51, l52⟩ := l5
        clear v1 x1 RM RS HAP hbel u1 u2 u3 u4 hsz s0 HA2 HA0 ADX DEX HRX HEB HROW H4 HSQ HRR
        rcases HCH.out with ⟨_, pA⟩ | hA
        case' inl =>
          have QA := Lib.hid (QS2.out k am 2 cm (addT cc M) wr TM.out pA)
          clear HCH TM pA
          go_wp2_with fail
          refine QA.out.mono ?_
          rintro e w11 ⟨P2, Q2, V2, W2, hs2, rfl, hb11⟩
          obtain ⟨e1, e2, e3, e4⟩ := more_sol HPAY.out HSOL.out hs2
          obtain ⟨CW, hCW⟩ : ∃ CW : Int, cc * W = CW := ⟨_, rfl⟩
          have hC1 : -100000 ≤ CW := by rw [← hCW]; have := Int.mul_le_mul_of_nonneg_right hcc1 (show 0 ≤ W by omega); omega
          have hC2 : CW ≤ 100000 := by rw [← hCW]; have := Int.mul_le_mul_of_nonneg_right hcc2 (show 0 ≤ W by omega); omega
          rw [hCW] at e4
          have b1 : (W2 != W) = false := by simp [e3]
          have b2 : (V2 != V + CW) = false := by simp [e4]
          have hpi : ∀ w, (Op.equalIn 10000 24 (.agg #[.int .i64 P2, .int .i64 Q2]) (.agg #[.int .i64 P, .int .i64 Q])).run Try.prog w = .ok true w := fun w => by rw [ratioIn]; simp [e1, e2]
          obtain ⟨q1, q2, q3, q4, hsz2, hbx⟩ := boxes2 w11 24 P2 Q2 V2 W2
          have hbY := ext_trans hb11 hbx
          have y1' := (hbY.cell (p := ⟨g, 0, none⟩) (by show g < _; omega)).trans y1
          have y2' := (hbY.cell (p := ⟨g, 1, none⟩) (by show g < _; omega)).trans y2
          have y3' := (hbY.cell (p := ⟨g + 1, 0, none⟩) (by exact hgr)).trans y3
          have y4' := (hbY.cell (p := ⟨g + 1, 1, none⟩) (by exact hgr)).trans y4
          have hbZ := ext_trans hbF hbY
          have TZ := Lib.hid (TS.out.below hbY)
          have hgz : g + 1 < ((w11.alloc (.cells #[.int .i64 P2, .int .i64 Q2] 24)).alloc (.cells #[.int .i64 V2, .int .i64 W2] 24)).heap.size := Nat.lt_of_lt_of_le hgr hbY.size
          clear QA hb11 hbx hbY y1 y2 y3 y4 hbF TS hs2 e1 e2 e3 e4 hgr
          go_wp2_with fail
          clear q1 q2 q3 q4 hsz2 y1' y2' b1 b2 hpi hCW hC1 hC2
          have hbQ := hbZ
          have TQ := TZ
          have t3 := y3'
          have t4 := y4'
          have hgq := hgz
          clear hbZ TZ y3' y4' hgz
          generalize (w11.alloc (.cells #[.int .i64 P2, .int .i64 Q2] 24)).alloc (.cells #[.int .i64 V2, .int .i64 W2] 24) = wz at *
          generalize w11.heap.size = g2 at *
        case' inr =>
          have QA := Lib.hid (QE.out am 2 cm (addT cc M) wr TM.out (by rw [hA]; decide))
          rw [hA] at QA
          clear HCH TM hA
          go_wp2_with fail
          refine QA.out.mono ?_
          rintro e w11 ⟨rfl, hb11⟩
          obtain ⟨q1, q2, q3, q4, hsz2, hbx⟩ := boxes2 w11 24 0 0 0 0
          have hbY := ext_trans hb11 hbx
          have t3 := (hbY.cell (p := ⟨g + 1, 0, none⟩) (by exact hgr)).trans y3
          have t4 := (hbY.cell (p := ⟨g + 1, 1, none⟩) (by exact hgr)).trans y4
          have hbQ := ext_trans hbF hbY
          have TQ := Lib.hid (TS.out.below hbY)
          have hgq : g + 1 < ((w11.alloc (.cells #[.int .i64 0, .int .i64 0] 24)).alloc (.cells #[.int .i64 0, .int .i64 0] 24)).heap.size := Nat.lt_of_lt_of_le hgr hbY.size
          clear QA hb11 hbx hbY y1 y2 y3 y4 hbF TS hgr q1 q2 q3 q4 hsz2
          go_wp2_with fail
          generalize (w11.alloc (.cells #[.int .i64 0, .int .i64 0] 24)).alloc (.cells #[.int .i64 0, .int .i64 0] 24) = wz at *
          generalize w11.heap.size = g2 at *
        all_goals
          rcases HCD.out with ⟨h2k, pD⟩ | hD
          · have QL := Lib.hid (QS2.out (k - 1) al 2 cl (delT j M) wz TQ.out pD)
            have HPD := Lib.hid pD
            clear HCD TQ pD
            go_wp2_with fail
            refine QL.out.mono ?_
            rintro e w13 ⟨P3, Q3, V3, W3, hs3, rfl, hb13⟩
            have hle := less_sol HPAY.out hjk HSOL.out hs3
            have l3 := sol_bd hs3 HPD.out
            have w31 := hs3.w1
            have w3b := hs3.wb
            obtain ⟨X1, hX1⟩ : ∃ X1 : Int, V3 * W = X1 := ⟨_, rfl⟩
            obtain ⟨X2, hX2⟩ : ∃ X2 : Int, V * W3 = X2 := ⟨_, rfl⟩
            have bX1 : -16000000000 ≤ X1 ∧ X1 ≤ 16000000000 := by
              rw [← hX1]
              have a1 := Int.mul_le_mul_of_nonneg_right l3.1 (show 0 ≤ W by omega)
              have a2 := Int.mul_le_mul_of_nonneg_right l3.2 (show 0 ≤ W by omega)
              omega
            have bX2 : -16000000000 ≤ X2 ∧ X2 ≤ 16000000000 := by
              rw [← hX2]
              have a1 := Int.mul_le_mul_of_nonneg_right l51 (show 0 ≤ W3 by omega)
              have a2 := Int.mul_le_mul_of_nonneg_right l52 (show 0 ≤ W3 by omega)
              omega
            obtain ⟨bX11, bX12⟩ := bX1
            obtain ⟨bX21, bX22⟩ := bX2
            have dd : decide (X2 ≤ X1) = true := decide_eq_true (by rw [← hX1, ← hX2]; exact hle)
            obtain ⟨q1, q2, q3, q4, hsz2, hbx⟩ := boxes2 w13 24 P3 Q3 V3 W3
            have hbY := ext_trans hb13 hbx
            have y3' := (hbY.cell (p := ⟨g + 1, 0, none⟩) (by exact hgq)).trans t3
            have y4' := (hbY.cell (p := ⟨g + 1, 1, none⟩) (by exact hgq)).trans t4
            have hbZ := ext_trans hbQ hbY
            clear QL hb13 hbx hbY t3 t4 hbQ hs3 hle l3 hgq
            go_wp2
            go_ret
            exact ⟨rfl, hbZ⟩
          · have QL := Lib.hid (QE.out al 2 cl (delT j M) wz TQ.out hD)
            have hne : (mxchk (delT j M) != 0) = true := by simpa using hD
            clear HCD TQ hD
            generalize mxchk (delT j M) = rr at *
            go_wp2_with fail
            refine QL.out.mono ?_
            rintro e w13 ⟨rfl, hb13⟩
            obtain ⟨q1, q2, q3, q4, hsz2, hbx⟩ := boxes2 w13 24 0 0 0 0
            have hbZ := ext_trans hbQ (ext_trans hb13 hbx)
            clear QL hb13 hbx t3 t4 hbQ q1 q2 q3 q4 hgq
            go_wp2
            go_ret
            exact ⟨rfl, hbZ⟩
  · have QS := Lib.hid (mE a n c M w2 (HT.out.below hb02) h0)
    have hne : (mxchk M != 0) = true := by simpa using h0
    clear h0 mE mS
    generalize mxchk M = r at *
    go_wp2_with fail
    refine QS.out.mono ?_
    rintro e w3 ⟨rfl, hb3⟩
    have hb03 := ext_trans hb02 hb3
    obtain ⟨u1, u2, u3, u4, hsz, hbx⟩ := boxes2 w3 24 0 0 0 0
    have hb04 := ext_trans hb03 hbx
    clear QS hb3 hb03 hbx hb02 HT HRR
    go_wp2
    go_ret
    exact ⟨by first | rfl | simp, hb04⟩
end Go.Proofs.Ytilgoinbajmamaa

/-
  plumekeep.WorthRound returns true, for every int, two slices of ints and bool, if package worth keeps its contracts; nothing that was there is written.
-/
import Derived.Test.YthcaipnlgbnfkaaLawWorthHolds
import Derived.Test.YthcaipnlgbnfkaaLawWorthRows
namespace Go.Proofs.Ythcaipnlgbnfkaa
open Go.RowKit Fm
set_option linter.unusedVariables false

theorem wr1 : gchk 2 [0, 1, 1, 3] = 0 := by decide +kernel
theorem wr2 : roundA 2 [0, 1, 1, 3] = true := by decide +kernel
theorem xI_row {n : Nat} (V p : List Int) : ∀ y ∈ sides n, rowG (val V) n p y = xI (rowL n V p) y := fun y hy => by
  have hy := mem_sides.1 hy
  unfold xI
  rw [rowL_at V p (show y.toNat < n by omega)]
  congr 1
  omega
/-- The game is round just if what each order gives holds. -/
theorem round_rows {n : Nat} {V : List Int} (g : Gm n V) (h4 : n ≤ 4) : convB n V = (allO n).all (fun p => coreB n V (rowL n V p)) := by
  have h0 : val V 0 = 0 := g.zero
  by_cases h : convG (val V) n
  · rw [convB_iff.2 h]
    symm
    rw [List.all_eq_true]
    intro p hp
    exact coreB_iff.2 (core_congr (fun S _ => rfl) (xI_row V p) (core_of_conv h h0 (mem_allO.1 hp)))
  · have e1 : convB n V = false := by
      cases q : convB n V with
      | false => rfl
      | true => exact absurd (convB_iff.1 q) h
    have e2 : (allO n).all (fun p => coreB n V (rowL n V p)) = false := by
      cases q : (allO n).all (fun p => coreB n V (rowL n V p)) with
      | false => rfl
      | true =>
        rw [List.all_eq_true] at q
        refine absurd (conv_of_core g.pos h4 h0 (fun p hp => ?_)) h
        exact core_congr (fun S _ => rfl) (fun y hy => (xI_row V p y hy).symm) (coreB_iff.1 (q p (mem_allO.2 hp)))
    rw [e1, e2]
theorem hold_row {n : Nat} {V : List Int} (g : Gm n V) (p : List Int) : holdA n V (rowL n V p) = coreB n V (rowL n V p) ∧ hdchk n V (rowL n V p) = 0 := by
  have hc : hdchk n V (rowL n V p) = 0 := by
    unfold hdchk
    rw [if_neg (by simpa using g.chk), if_neg (by rw [rowL_len]; simp), if_neg]
    intro q
    apply q
    intro x hx
    have := rowL_bd g p x hx
    omega
  refine ⟨?_, hc⟩
  unfold holdA
  rw [hc, Int.toNat_natCast]
  simp
theorem round_ok {n : Nat} {V : List Int} (g : Gm n V) : roundA n V = convB n V := by
  unfold roundA
  rw [g.chk, Int.toNat_natCast]
  simp

set_option maxHeartbeats 8000000 in
set_option maxRecDepth 100000 in
theorem worthRound_is (sS : WShare) (sR : WRow) (sH : WHolds) (sN : WRound) (n0 : Int) (hn0 : -9223372036854775808 ≤ n0) (hn1 : n0 ≤ 9223372036854775807) (v1 : Value) (l : List Int) {w : World} (f1 : IsInts w v1 l) (vy : Value) (row : List Int) (f2 : IsInts w vy row) (bb : Bool) :
    Calls Try.prog 7 #[.int .i64 n0, v1, vy, .bool bb] w fun e w' => e = .returned (.bool true) ∧ Below w.heap.size w w' := by
  obtain ⟨a, c, rfl, hr, hox, hlc, _, hcm, h8⟩ := f1
  obtain ⟨ay, cy, rfl, hry, hoy, hly, _, hcy, hy8⟩ := f2
  have HO := Lib.hid hox
  have HRR := Lib.hid hr
  have W0 : Hid (∀ W, Calls Try.prog 28 #[] W fun e w' => e = .returned (.bool true) ∧ Below W.heap.size W w') := fun W => worths_any sS W
  have SR : Hid WRow := sR
  have SH : Hid WHolds := sH
  have SN : Hid WRound := sN
  unfold maxLen at hcm
  obtain ⟨H, hH⟩ : ∃ H : Nat, H = min l.length 30 := ⟨_, rfl⟩
  have hH30 : H ≤ 30 := by omega
  have hHm : H ≤ l.length := by omega
  have hmin : min (l.length : Int) 30 = (H : Int) := by omega
  have hmin2 : (if (30 : Int) < (l.length : Int) then (30 : Int) else (l.length : Int)) = (H : Int) := by split <;> omega
  have b1 : (0 : Int) ≤ (H : Int) := by omega
  have b2' : (H : Int) ≤ (c : Int) := by omega
  have HRT : Hid (Rd w w.heap.size a (l.take H).length (l.take H)) := by
    show Rd _ _ _ _ _
    have e : (l.take H).length = H := by rw [List.length_take]; omega
    rw [e]
    exact rd_take hr hHm
  have HOT : Hid (∀ x ∈ l.take H, Ok64 x) := fun x hx => hox x (List.mem_of_mem_take hx)
  have hlt : (l.take H).length = H := by rw [List.length_take]; omega
  have HLT := Lib.hid hlt
  clear sS sR sH sN hr hox hry hoy hH hlt
  go_enter Try.func7, Try.ntmps7
  go_wp2_with fail
  have L1 : Rd (w.alloc (.cells #[.int .i64 0, .int .i64 1, .int .i64 1, .int .i64 3] 3)) (w.alloc (.cells #[.int .i64 0, .int .i64 1, .int .i64 1, .int .i64 3] 3)).heap.size (some ⟨w.heap.size, 0, none⟩) 4 [0, 1, 1, 3] := by simpa using Rd.lit w 3 [0, 1, 1, 3] #[.int .i64 0, .int .i64 1, .int .i64 1, .int .i64 3] rfl
  have hb : Below w.heap.size w (w.alloc (.cells #[.int .i64 0, .int .i64 1, .int .i64 1, .int .i64 3] 3)) := (Below.refl _ _).alloc (Nat.le_refl _) _
  refine (SN.out 2 _ 4 4 [0, 1, 1, 3] _ ⟨L1, by omega, Nat.le_refl _⟩).mono ?_
  rw [wr1, wr2]
  rintro e w1 ⟨rfl, hb1⟩
  have hb01 := ext_trans hb hb1
  clear L1 hb hb1
  go_wp2_with fail
  refine (W0.out w1).mono ?_
  rintro e w2 ⟨rfl, hb2⟩
  have hb02 := ext_trans hb01 hb2
  clear W0 hb01 hb2
  go_wp2_with fail
  refine (within_any n0 4 w2 hn0 hn1 (by omega) (by omega)).mono ?_
  rintro e w1' ⟨rfl, rfl⟩
  obtain ⟨d, hd⟩ : ∃ d : Nat, n0 % 4 = (d : Int) := ⟨(n0 % 4).toNat, by omega⟩
  rw [hd]
  obtain ⟨n, hn⟩ : ∃ n : Nat, d + 1 = n := ⟨_, rfl⟩
  have hnz : (1 : Int) + (d : Int) = (n : Int) := by omega
  have h1 : 1 ≤ n := by omega
  have h4 : n ≤ 4 := by omega
  have QR := roundOf_any h1 h4 a c (l.take H) (by rw [HLT.out]; omega) w2 (rd_ext HRT.out hb02) HOT.out
  rw [HLT.out] at QR
  have HQR := Lib.hid QR
  have HG0 := Lib.hid (roundL_gm h1 (show n ≤ 6 by omega) (l := l.take H) (by rw [HLT.out]; omega))
  have HCV := Lib.hid (roundL_conv n (l.take H))
  clear hd hn0 hn1 hn QR HRT HOT
  generalize roundL n (l.take H) = V0 at *
  go_wp2_with fail
  refine HQR.out.mono ?_
  rintro e w3 ⟨v3, rfl, o3, hb3⟩
  clear HQR hmin hmin2
  have hb03 := ext_trans hb02 hb3
  clear hb02 hb3
  obtain ⟨a3, c3, rfl, hc3, _⟩ := own_slice o3
  have R3 := Lib.hid (Rd.of_own o3)
  clear o3
  have hp6 := pow6 (show n ≤ 6 by omega)
  have hp1 := pow1 n
  have HMID : Hid (∀ (V : List Int) (a4 : Option Addr) (c4 : Nat) (w4 : World), Gm n V → 2 ^ n ≤ c4 → Rd w4 w4.heap.size a4 (2 ^ n) V → Calls Try.prog 17 #[.int .i64 n, .slice a4 (2 ^ n) c4] w4 fun e w' => e = .returned (.tuple #[.bool (convB n V), .int .i64 0]) ∧ Below w4.heap.size w4 w') := fun V a4 c4 w4 g hc hr => by
    have := SN.out n a4 (2 ^ n) c4 V w4 ⟨hr, by omega, hc⟩
    rw [round_ok g, g.chk] at this
    exact this
  clear SN
  cases bb
  case' false =>
    obtain ⟨V, hV⟩ : ∃ V, V = V0 := ⟨_, rfl⟩
    rw [← hV] at HG0 HCV R3
    have HG := HG0
    have hcb : convB n V = true := convB_iff.2 HCV.out
    have QN := Lib.hid (HMID.out V a3 c3 w3 HG.out hc3 R3.out)
    rw [hcb] at QN
    have HRW : Hid (true = (allO n).all (fun p => coreB n V (rowL n V p))) := by show _ = _; rw [← hcb]; exact round_rows HG.out h4
    have R4 := R3
    have hb04 := hb03
    have hc4 := hc3
    clear hV HCV hcb HG0 R3 hb03 hc3 HMID HO HRR
    go_wp2_with fail
    refine QN.out.mono ?_
    rintro e w5 ⟨rfl, hb5⟩
  case' true =>
    have QG := Lib.hid (gameOf_any h1 (show n ≤ 6 by omega) a l.length c l w3 (rd_ext HRR.out hb03) (by omega) HO.out)
    have HG := Lib.hid (gameL_gm h1 (show n ≤ 6 by omega) l)
    generalize gameL n l = V at *
    go_wp2_with fail
    refine QG.out.mono ?_
    rintro e w4 ⟨v4, rfl, o4, hb4⟩
    have hb04 := ext_trans hb03 hb4
    obtain ⟨a4, c4, rfl, hc4, _⟩ := own_slice o4
    have R4 := Lib.hid (Rd.of_own o4)
    have QN := Lib.hid (HMID.out V a4 c4 w4 HG.out hc4 R4.out)
    have HRW : Hid (convB n V = (allO n).all (fun p => coreB n V (rowL n V p))) := round_rows HG.out h4
    clear QG HG0 HCV R3 hb03 hb4 hc3 o4 HMID HO HRR
    generalize convB n V = is at *
    go_wp2_with fail
    refine QN.out.mono ?_
    rintro e w5 ⟨rfl, hb5⟩
  all_goals
    have hb05 := ext_trans hb04 hb5
    have R5 := Lib.hid (rd_ext R4.out hb5)
    clear QN R4 hb04 hb5
    go_wp2_with fail
    refine (all_any n w5 h1 (by omega)).mono ?_
    rintro e w6 ⟨v6, vs6, rfl, o6, el6, hb6⟩
    have hb06 := ext_trans hb05 hb6
    have hlp : 0 < (allO n).length := by rw [allO_len h1 (by omega)]; exact fact_ge n
    have hl7 := allO_le h1 (show n ≤ 6 by omega)
    obtain ⟨g6, c6, rfl, _, _⟩ := o6.form hlp
    have R6 := Lib.hid (RdR.of_own o6 rfl el6)
    have R56 := Lib.hid (rd_ext R5.out hb6)
    have HAL : Hid (∀ p ∈ allO n, p.Perm (sides n)) := fun p hp => mem_allO.1 hp
    have HHR : Hid (∀ p, holdA n V (rowL n V p) = coreB n V (rowL n V p) ∧ hdchk n V (rowL n V p) = 0) := fun p => hold_row HG.out p
    have HVL : Hid (V.length = 2 ^ n) := HG.out.len
    clear o6 el6 R5 hb05 hb6
    generalize allO n = L at *
    go_wp2_with fail
    refine (good_zero w6.heap.size 0 2 2 _ (by omega) (zeros_at w6 23 2 #[.int .i64 0, .int .i64 0] rfl)).mono ?_
    rintro e w7 ⟨rfl, rfl⟩
    have b7 : Below w6.heap.size w6 (w6.alloc (.cells #[.int .i64 0, .int .i64 0] 23)) := (Below.refl _ _).alloc (Nat.le_refl _) _
    have R57 := Lib.hid (rd_ext R56.out b7)
    have R67 := Lib.hid (rdr_ext R6.out b7)
    have hb07 := ext_trans hb06 b7
    clear b7 R56 R6 hb06
    generalize w6.alloc (.cells #[.int .i64 0, .int .i64 0] 23) = w7 at *
    go_wp2_with fail
    go_loopw [16, 78] (fun hv tv wr => ∃ s : Nat, s ≤ L.length ∧ tv = .int .i64 s ∧ hv = .bool ((L.take s).all (fun p => coreB n V (rowL n V p))) ∧ Below w7.heap.size w7 wr) (fun _ tv _ => L.length - (intOf tv).toNat)
    case atStart => exact ⟨0, Nat.zero_le _, rfl, rfl, Below.refl _ w7⟩
    case round =>
      obtain ⟨s, hs, rfl, rfl, hbel⟩ := hrel
      by_cases hsL : s < L.length
      · obtain ⟨b, o, a', c', e5, hb5, hcell, hcc, _, _, hrd⟩ := (rdr_ext R67.out hbel).at_ hsL
        injection e5 with e5
        injection e5 with e5 e5'
        subst e5
        subst e5'
        have hperm := HAL.out _ (memR hsL)
        have hql := perm_len hperm
        rw [hql] at hrd hcell hcc
        rw [Nat.zero_add] at hcell
        have HQ := Lib.hid (row_useW SR.out HG.out hperm HVL.out _ a' _ c' hc4 hcc wr (rd_ext R57.out hbel) hrd)
        have hsn : (L.take (s + 1)).all (fun p => coreB n V (rowL n V p)) = ((L.take s).all (fun p => coreB n V (rowL n V p)) && coreB n V (rowL n V (L.getD s []))) := by
          have e : L.take (s + 1) = L.take s ++ [L.getD s []] := by
            rw [List.take_succ_eq_append_getElem hsL, List.getD_eq_getElem?_getD, List.getElem?_eq_getElem hsL]; rfl
          rw [e, List.all_append]
          simp
        have HSN := Lib.hid hsn
        have hhr := HHR.out (L.getD s [])
        have HRLL := Lib.hid (rowL_len n V (L.getD s []))
        clear hsn hperm hql hrd
        generalize rowL n V (L.getD s []) = rw at *
        go_wp2_with fail
        refine HQ.out.mono ?_
        rintro e w8 ⟨a8, c8, rfl, hc8, r8, hb8⟩
        have hb78 := ext_trans hbel hb8
        have QH := Lib.hid (SH.out n _ (2 ^ n) _ V a8 n c8 rw w8 ⟨rd_ext R57.out hb78, by omega, hc4⟩ ⟨r8, by omega, hc8⟩)
        rw [hhr.1, hhr.2] at QH
        clear HQ r8 hb8 hbel hcell hhr
        generalize coreB n V rw = ok at *
        generalize (L.take s).all (fun p => coreB n V (rowL n V p)) = ho at *
        go_wp2_with fail
        refine QH.out.mono ?_
        rintro e w9 ⟨rfl, hb9⟩
        have hb79 := ext_trans hb78 hb9
        clear QH hb78 hb9
        go_wp2_with fail
        refine (good_zero w9.heap.size 0 2 2 _ (by omega) (zeros_at w9 23 2 #[.int .i64 0, .int .i64 0] rfl)).mono ?_
        rintro e w10 ⟨rfl, rfl⟩
        have b10 : Below w9.heap.size w9 (w9.alloc (.cells #[.int .i64 0, .int .i64 0] 23)) := (Below.refl _ _).alloc (Nat.le_refl _) _
        have hb710 := ext_trans hb79 b10
        clear b10 hb79
        generalize w9.alloc (.cells #[.int .i64 0, .int .i64 0] 23) = w10 at *
        cases ho
        all_goals
          go_wp2
          go_roundw
          case rel => exact ⟨s + 1, by omega, by go_num, by rw [HSN.out]; simp, hb710⟩
          case measure => simp [intOf]; omega
      · obtain rfl : s = L.length := by omega
        rw [List.take_of_length_le (Nat.le_refl _), ← HRW.out]
        have hbe := ext_trans hb07 hbel
        go_wp2
        go_ret
        exact ⟨by simp, hbe⟩
end Go.Proofs.Ythcaipnlgbnfkaa

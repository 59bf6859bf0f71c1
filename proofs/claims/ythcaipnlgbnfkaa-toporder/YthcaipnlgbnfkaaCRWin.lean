/-
  Package rules: scoresOf, Winners, Sole, in the program's own text.
-/
import Derived.Test.YthcaipnlgbnfkaaM3
import Derived.Test.YthcaipnlgbnfkaaCRRounds
import Derived.Test.YthcaipnlgbnfkaaCTFirsts
import Derived.Test.YthcaipnlgbnfkaaCTPoints
import Derived.Test.YthcaipnlgbnfkaaCTDuels
import Derived.Test.YthcaipnlgbnfkaaCDWins
import Derived.Test.YthcaipnlgbnfkaaCDWorst
import Derived.Test.YthcaipnlgbnfkaaCGreatest
namespace Go.Proofs.Ythcaipnlgbnfkaa
open Go.RowKit Fm
set_option linter.unusedVariables false

set_option maxHeartbeats 2000000 in
set_option maxRecDepth 100000 in
theorem scores_any (rule : Int) (hr1 : 1 ≤ rule) (hr4 : rule ≤ 4) (n : Nat) (a : Option Addr) (c : Nat) (V : List (List Int)) (w : World) (hr : RdR w w.heap.size a V.length V) (hv : vchk n V = 0) :
    Calls Try.prog 81 #[.int .i64 rule, .int .i64 n, .slice a V.length c] w (IntsOut (scoreL rule n V) w) := by
  obtain ⟨⟨h1, h6⟩, hV, _⟩ := vchk_zero hv
  have h1n : 1 ≤ n := by omega
  have h6n : n ≤ 6 := by omega
  have hVn : V.length ≤ 30 := by omega
  by_cases e1 : rule = 1
  · subst e1
    have HC := Lib.hid (firsts_any n a V.length c V w w.heap.size (Nat.le_refl _) hr (by omega) hv)
    rw [show firstsL n V = scoreL 1 n V from rfl] at HC
    generalize scoreL 1 n V = res at *
    clear hr hv
    go_enter Try.func81, Try.ntmps81
    go_wp2_with fail
    refine HC.out.mono ?_
    rintro e w1 ⟨a1, c1, rfl, q1, q2, q3, q4⟩
    have Q3 := Lib.hid q3
    clear q3
    go_wp2
    go_ret2
    exact ⟨a1, c1, rfl, q1, q2, Q3.out, q4⟩
  · by_cases e2 : rule = 2
    · subst e2
      have HC := Lib.hid (points_any n a V.length c V w w.heap.size (Nat.le_refl _) hr (by omega) hv)
      rw [show pointsL n V = scoreL 2 n V from rfl] at HC
      generalize scoreL 2 n V = res at *
      clear hr hv
      go_enter Try.func81, Try.ntmps81
      go_wp2_with fail
      refine HC.out.mono ?_
      rintro e w1 ⟨a1, c1, rfl, q1, q2, q3, q4⟩
      have Q3 := Lib.hid q3
      clear q3
      go_wp2
      go_ret2
      exact ⟨a1, c1, rfl, q1, q2, Q3.out, q4⟩
    · have HC := Lib.hid (duels_any n a V.length c V w w.heap.size (Nat.le_refl _) hr (by omega) hv)
      have HTK := Lib.hid (tchk_duels h1n h6n hVn)
      have HML := Lib.hid (duelsM_len n V)
      have HMR : Hid (∀ l ∈ duelsM n V, l.length ≤ 17592186044416) := fun l hl => by rw [duelsM_rows hl]; omega
      have HBD := Lib.hid (ent_duels_bd n V hVn)
      have HS3 : Hid (rule = 3 → winsL n (duelsM n V) = scoreL rule n V) := fun h => by subst h; rfl
      have HS4 : Hid (rule = 4 → (worstL n (duelsM n V)).map (fun x => -x) = scoreL rule n V) := fun h => by subst h; rfl
      clear hr hv
      generalize duelsM n V = M at *
      generalize scoreL rule n V = res at *
      by_cases e3 : rule = 3
      · subst e3
        have HS := Lib.hid (HS3.out rfl)
        clear HS3 HS4 e1 e2
        go_enter Try.func81, Try.ntmps81
        go_wp2_with fail
        refine HC.out.mono ?_
        rintro e w1 ⟨a1, c1, rfl, q1, q2, q3, q4⟩
        rw [HML.out] at q1 q3 ⊢
        have HD := Lib.hid (dwins_any a1 n c1 M w1 ⟨w1.heap.size, Nat.le_refl _, q3, by omega, HMR.out⟩ HTK.out)
        rw [HS.out] at HD
        clear HC q3
        go_wp2_with fail
        refine HD.out.mono ?_
        rintro e w2 ⟨a2, c2, rfl, p1, p2, p3, p4⟩
        have P3 := Lib.hid p3
        have hbe := ext_trans q4 p4
        clear p3 HD q4 p4
        go_wp2
        go_ret2
        exact ⟨a2, c2, rfl, p1, p2, P3.out, hbe⟩
      · obtain rfl : rule = 4 := by omega
        have HS := Lib.hid (HS4.out rfl)
        have HBW : Hid (∀ i, i < n → 0 ≤ (worstL n M).getD i 0 ∧ (worstL n M).getD i 0 ≤ 30) := fun i hi => by
          unfold worstL
          rw [map_sides_getD n _ hi]
          exact ⟨worstTo_nonneg _ _ _, worstTo_le30 HBD.out _ _⟩
        have HDL : Hid ((worstL n M).length = n) := by show _ = _; simp [worstL, sides_len]
        clear HS3 HS4 e1 e2 HBD
        go_enter Try.func81, Try.ntmps81
        go_wp2_with fail
        refine HC.out.mono ?_
        rintro e w1 ⟨a1, c1, rfl, q1, q2, q3, q4⟩
        rw [HML.out] at q1 q3 ⊢
        have HD := Lib.hid (dworst_own a1 n c1 M w1 ⟨w1.heap.size, Nat.le_refl _, q3, by omega, HMR.out⟩ HTK.out)
        clear HC q3
        generalize worstL n M = D at *
        go_wp2_with fail
        refine HD.out.mono ?_
        rintro e w2 ⟨v2, rfl, o2, p4⟩
        rw [HDL.out] at o2
        obtain ⟨g, cap, rfl, hg1, hg2, hnc, hcm, _⟩ := own_form o2 (by omega)
        have hbe := ext_trans q4 p4
        have od0 := own_mono o2 q4.size
        rw [← negTo_zero D] at od0
        have HO0 := Lib.hid od0
        have HB0 := Lib.hid hbe
        clear HD q4 p4 o2 od0 hbe hg1 hg2
        go_wp2_with fail
        go_loopw [49] (fun iv wr => ∃ k : Nat, k ≤ n ∧ iv = .int .i64 k ∧ wr.ownsRow w.heap.size 3 1 (.slice (some ⟨g, 0, none⟩) n cap) n (I (negTo D k)) ∧ Below w.heap.size w wr) (fun iv _ => n - (intOf iv).toNat)
        case atStart => exact ⟨0, Nat.zero_le _, rfl, HO0.out, HB0.out⟩
        case round =>
          clear HO0 HB0
          obtain ⟨k, hk, rfl, od, hbel⟩ := hrel
          by_cases hkn : k < n
          · have hkd : k < D.length := by rw [HDL.out]; exact hkn
            have ck := own_cell od k hkn
            have fk := od.frozenAt k
            rw [negTo_at D hkd] at ck
            have hbd := HBW.out k hkn
            obtain ⟨s1, g1⟩ := od.stored k (.int .i64 (-(D.getD k 0)))
            have es : (I (negTo D k)).set k (.int .i64 (-(D.getD k 0))) = I (negTo D (k + 1)) := by rw [← negTo_set D hkd]; unfold I; rw [List.map_set]
            rw [es] at s1
            have hbe := hbel.grown g1 hbel.size (fun y hy => by injection hy with hy; subst hy; exact (od.lt g rfl).1)
            clear es g1 od hbel hkd
            generalize D.getD k 0 = x at *
            go_wp2
            go_roundw
            case rel => exact ⟨k + 1, by omega, by go_num, s1, hbe⟩
            case measure => simp [intOf]; omega
          · obtain rfl : k = n := by omega
            have e5 : negTo D k = res := by rw [← HS.out, ← negTo_end D, HDL.out]
            have hrl : res.length = k := by rw [← HS.out, List.length_map, HDL.out]
            rw [e5] at od
            have RD := Lib.hid (Rd.of_own od)
            have HRL := Lib.hid hrl
            clear e5 od hrl
            go_wp2
            go_ret2
            refine ⟨some ⟨g, 0, none⟩, cap, by rw [HRL.out]; rfl, by rw [HRL.out]; exact hnc, hcm, ?_, hbel⟩
            rw [HRL.out]
            exact RD.out

set_option maxHeartbeats 400000 in
set_option maxRecDepth 100000 in
theorem rwinE_nil (rule n : Int) (a : Option Addr) (m c : Nat) (V : List (List Int)) (w : World) (ti : TabIn w a m V) (hk : rchk rule n V ≠ 0) :
    Calls Try.prog 41 #[.int .i64 rule, .int .i64 n, .slice a m c] w (ErrNil (rchk rule n V) w) := by
  obtain ⟨B, hB, hr, hm, h8⟩ := ti
  have HC := Lib.hid (tcheck_any n a m c V w B hB hr hm)
  by_cases hlo : rule < 1
  · have e : rchk rule n V = 1 := by unfold rchk; rw [if_pos (.inl hlo)]
    rw [e]
    clear HC hr h8 hk e
    go_enter Try.func41, Try.ntmps41
    go_wp2
    go_ret2
    exact ⟨rfl, Below.refl _ w⟩
  · by_cases hhi : 5 < rule
    · have e : rchk rule n V = 1 := by unfold rchk; rw [if_pos (.inr hhi)]
      rw [e]
      clear HC hr h8 hk e
      go_enter Try.func41, Try.ntmps41
      go_wp2
      go_ret2
      exact ⟨rfl, Below.refl _ w⟩
    · have e : rchk rule n V = vchk n V := by unfold rchk; rw [if_neg (by omega)]
      rw [e] at hk ⊢
      have hne : (vchk n V != 0) = true := by simpa using hk
      clear hk hr h8 e
      generalize vchk n V = r at *
      go_enter Try.func41, Try.ntmps41
      go_wp2_with fail
      refine HC.out.mono ?_
      rintro e w1 ⟨rfl, hb⟩
      clear HC
      go_wp2
      go_ret2
      exact ⟨rfl, hb⟩
theorem rwinE_any (rule n : Int) (a : Option Addr) (m c : Nat) (V : List (List Int)) (w : World) (ti : TabIn w a m V) (hk : rchk rule n V ≠ 0) :
    Calls Try.prog 41 #[.int .i64 rule, .int .i64 n, .slice a m c] w (ErrOut (rchk rule n V) w) := (rwinE_nil rule n a m c V w ti hk).mono fun _ _ h => h.out

set_option maxHeartbeats 1000000 in
set_option maxRecDepth 100000 in
theorem rwin_own (rule : Int) (n : Nat) (a : Option Addr) (m c : Nat) (V : List (List Int)) (w : World) (ti : TabIn w a m V) (hk : rchk rule n V = 0) :
    Calls Try.prog 41 #[.int .i64 rule, .int .i64 n, .slice a m c] w (OwnOut (winL rule n V) w) := by
  obtain ⟨B, hB, hr, hm, h8⟩ := ti
  obtain rfl := hr.1
  have hrr : 1 ≤ rule ∧ rule ≤ 5 := by
    by_cases h : rule < 1 ∨ 5 < rule
    · unfold rchk at hk; rw [if_pos h] at hk; cases hk
    · omega
  have hv : vchk n V = 0 := by unfold rchk at hk; rwa [if_neg (by omega)] at hk
  have HC := Lib.hid (tcheck_any n a V.length c V w B hB hr hm)
  rw [hv] at HC
  obtain ⟨⟨h1, h6⟩, hV, _⟩ := vchk_zero hv
  have h1n : 1 ≤ n := by omega
  have h6n : n ≤ 6 := by omega
  have hVn : V.length ≤ 30 := by omega
  obtain ⟨hr1, hr5⟩ := hrr
  have HR := Lib.hid (hr.more hB)
  by_cases e5 : rule = 5
  · subst e5
    have HP := Lib.hid (vperm hv)
    have HX : Hid ([lastOf n V] = winL 5 n V) := rfl
    have HL : Hid (∀ W, Below w.heap.size w W → Calls Try.prog 80 #[.int .i64 n, .slice a V.length c] W fun e w' => e = .returned (.int .i64 (lastOf n V)) ∧ Below W.heap.size W w') := fun W hW => last_any h1n h6n a c V W (rdr_ext HR.out hW) hVn HP.out
    clear hr h8 hk hv
    generalize winL 5 n V = res at *
    go_enter Try.func41, Try.ntmps41
    go_wp2_with fail
    refine HC.out.mono ?_
    rintro e w1 ⟨rfl, hb1⟩
    clear HC
    go_wp2_with fail
    refine (HL.out w1 hb1).mono ?_
    rintro e w4 ⟨rfl, hb4⟩
    have hbe := ext_trans hb1 hb4
    have o4 := own_mono (own_lit w4 3 [lastOf n V] #[.int .i64 (lastOf n V)] rfl (by unfold maxLen; simp)) hbe.size
    rw [HX.out] at o4
    have hrl : res.length = 1 := by rw [← HX.out]; rfl
    have HRL := Lib.hid hrl
    have hbe2 := hbe.alloc hbe.size (.cells #[.int .i64 (lastOf n V)] 3)
    have HO4 := Lib.hid o4
    clear hb4 hb1 hbe hrl HX HL o4
    generalize lastOf n V = y at *
    go_wp2
    go_ret2
    refine ⟨_, rfl, ?_, hbe2⟩
    have o4 := HO4.out
    rw [HRL.out] at o4 ⊢
    exact o4
  · have HX := Lib.hid (winL_score hr1 (by omega) n V)
    rw [HX.out]
    have HS : Hid (∀ W, Below w.heap.size w W → Calls Try.prog 81 #[.int .i64 rule, .int .i64 n, .slice a V.length c] W (IntsOut (scoreL rule n V) W)) := fun W hW => scores_any rule hr1 (by omega) n a c V W (rdr_ext HR.out hW) hv
    have HL := Lib.hid (scoreL_len rule n V)
    clear hr h8 hk hv HX HR
    generalize scoreL rule n V = l at *
    have e5b : (rule == 5) = false := by simpa using e5
    go_enter Try.func41, Try.ntmps41
    go_wp2_with fail
    refine HC.out.mono ?_
    rintro e w1 ⟨rfl, hb1⟩
    clear HC
    go_wp2_with fail
    refine (HS.out w1 hb1).mono ?_
    rintro e w2 ⟨a2, c2, rfl, p1, p2, p3, p4⟩
    rw [HL.out] at p1 p3 ⊢
    have hb2 := ext_trans hb1 p4
    obtain ⟨b, o, rfl, hb, hc⟩ := p3.2 (by omega)
    have HCL := Lib.hid hc
    have HRD := Lib.hid p3
    clear hc p3 p4 hb1 HS
    go_wp2_with fail
    refine (max_any l (some ⟨b, o, none⟩) n c2 w2 w2.heap.size (by omega) HRD.out (by omega)).mono ?_
    rintro e w' ⟨rfl, rfl⟩
    have hmx : Lib.maxOf l = most l := rfl
    rw [hmx]
    clear hmx
    obtain ⟨mx, hmx⟩ : ∃ mx, most l = mx := ⟨_, rfl⟩
    rw [hmx]
    have HMX := Lib.hid hmx
    have HB2 := Lib.hid hb2
    clear hmx
    go_wp2_with fail
    go_loopw [12, 47] (fun v iv wr => ∃ k : Nat, k ≤ n ∧ iv = .int .i64 k ∧ wr.ownsRow w2.heap.size 3 1 v (greatTo l k).length (I (greatTo l k)) ∧ Below w2.heap.size w2 wr) (fun _ iv _ => n - (intOf iv).toNat)
    case atStart => exact ⟨0, Nat.zero_le _, rfl, World.ownsRow_nil _ _ _ _, Below.refl _ w2⟩
    case round =>
      obtain ⟨k, hkk, rfl, own, hbel⟩ := hrel
      have hz := hbel.size
      have hz2 := hb2.size
      by_cases hkn : k < n
      · have ck : wr.cell? ⟨b, o + k, none⟩ = some (.int .i64 (l.getD k 0)) := (hbel.cell (by show b < _; omega)).trans (HCL.out k hkn)
        have hgl := greatTo_len l k
        have hgs := greatTo_succ l k
        rw [HMX.out] at hgs
        by_cases he : l.getD k 0 = mx
        · rw [if_pos he] at hgs
          have HGS := Lib.hid hgs
          have heb : (l.getD k 0 == mx) = true := by simpa using he
          clear hgs he
          generalize l.getD k 0 = x at *
          generalize greatTo l k = gk at *
          go_wp2_with (at_builtin; go_must (refine push1 rfl _ _ rfl wr w2.heap.size _ gk.length gk k rfl rfl (by exact own) hz (by omega) ?_))
          intro g cap w3 own3 hgr _ _
          have hb3 : Below w2.heap.size w2 w3 := hbel.grown hgr hz (own_not own)
          have e1 : gk.length + 1 = (greatTo l (k + 1)).length := by rw [HGS.out]; simp
          rw [← HGS.out, e1] at own3
          rw [e1]
          clear hgr own hbel e1 ck
          go_wp2
          go_roundw
          case rel => exact ⟨k + 1, by omega, by go_num, own3, hb3⟩
          case measure => simp [intOf]; omega
        · rw [if_neg he, List.append_nil] at hgs
          have heb : (l.getD k 0 == mx) = false := by simpa using he
          rw [← hgs] at own
          clear hgs he
          generalize l.getD k 0 = x at *
          go_wp2
          go_roundw
          case rel => exact ⟨k + 1, by omega, by go_num, own, hbel⟩
          case measure => simp [intOf]; omega
      · obtain rfl : k = n := by omega
        have e : greatTo l k = greatest l := by unfold greatest; rw [HL.out]
        rw [e] at own
        have hbe := ext_trans HB2.out hbel
        have own' := own_mono own hz2
        go_wp2
        go_ret2
        exact ⟨_, rfl, own', hbe⟩

theorem rWinE : RWinE := rwinE_any
theorem rWinO : RWinO := rwin_own
theorem rWin : RWin := fun rule n a m c V w ti hk => (rwin_own rule n a m c V w ti hk).mono fun _ _ h => h.ints



end Go.Proofs.Ythcaipnlgbnfkaa

/-
  plumekeep.WorthHolds returns true, for every int and two slices of ints, if package worth keeps its contracts; nothing that was there is written.
-/
import Derived.Test.YthcaipnlgbnfkaaLawWorthWhole
import Derived.Test.YthcaipnlgbnfkaaCRoundOf
namespace Go.Proofs.Ythcaipnlgbnfkaa
open Go.RowKit Fm
set_option linter.unusedVariables false

theorem rd_take {w : World} {B n : Nat} {a : Option Addr} {l : List Int} (h : Rd w B a n l) {k : Nat} (hk : k ≤ n) : Rd w B a k (l.take k) := by
  refine ⟨by rw [List.length_take, h.1]; omega, fun hk0 => ?_⟩
  obtain ⟨b, o, e, hb, hc⟩ := h.2 (by omega)
  exact ⟨b, o, e, hb, fun j hj => by rw [hc j (by omega)]; simp [List.getD_eq_getElem?_getD, hj]⟩
theorem core_congr {v v' : Nat → Int} {n : Nat} {x x' : Int → Int} (hv : ∀ S, S < 2 ^ n → v S = v' S) (hx : ∀ y ∈ sides n, x y = x' y) (h : coreG v n x) : coreG v' n x' := by
  have e : ∀ S, hI x n S = hI x' n S := fun S => tI_congr (fun y hy => by rw [hx y hy])
  have hp := pow1 n
  exact ⟨fun S hS => by rw [← hv S hS, ← e]; exact h.1 S hS, by rw [← e, h.2, hv _ (by omega)]⟩
theorem fact4 {n : Nat} (h : n ≤ 4) : fact n ≤ 24 := fact_mono h
theorem sh_small {n : Nat} (h1 : 1 ≤ n) (h6 : n ≤ 6) {V : List Int} (hV : ∀ S, -150 ≤ val V S ∧ val V S ≤ 150) : ∀ x ∈ shL n V, -1000000000 ≤ x ∧ x ≤ 1000000000 := fun x hx => by
  unfold shL fnL at hx
  rw [List.mem_map] at hx
  obtain ⟨y, _, rfl⟩ := hx
  have h := tL_bd (L := allO n) (φ := fun p => rowG (val V) n p y) (B := 300) (fun p _ => by
    unfold rowG
    have := hV (preP b2 n p y + 2 ^ y.toNat)
    have := hV (preP b2 n p y)
    omega)
  have hl := allO_le h1 h6
  unfold shG
  omega
def loneB (Z : List Int) (k : Nat) : Bool := (List.range k).all fun i => decide (val Z (2 ^ i) ≤ 0)
theorem loneB_succ (Z : List Int) (k : Nat) : loneB Z (k + 1) = (loneB Z k && decide (val Z (2 ^ k) ≤ 0)) := by
  unfold loneB; rw [List.range_succ, List.all_append]; simp

set_option maxHeartbeats 8000000 in
set_option maxRecDepth 100000 in
theorem worthHolds_is (sS : WShare) (sH : WHolds) (n0 : Int) (hn0 : -9223372036854775808 ≤ n0) (hn1 : n0 ≤ 9223372036854775807) (v1 : Value) (l : List Int) {w : World} (f1 : IsInts w v1 l) (vy : Value) (ly : List Int) (f2 : IsInts w vy ly) :
    Calls Try.prog 8 #[.int .i64 n0, v1, vy] w fun e w' => e = .returned (.bool true) ∧ Below w.heap.size w w' := by
  obtain ⟨a, c, rfl, hr, hox, hlc, _, hcm, h8⟩ := f1
  obtain ⟨ay, cy, rfl, hry, hoy, hly, _, hcy, hy8⟩ := f2
  have HO := Lib.hid hox
  have HRY := Lib.hid hry
  have HOY := Lib.hid hoy
  have W0 := Lib.hid (worths_any sS w)
  have SS : Hid WShare := sS
  have SH : Hid WHolds := sH
  unfold maxLen at hcm
  obtain ⟨H, hH⟩ : ∃ H : Nat, H = min l.length 30 := ⟨_, rfl⟩
  have hH30 : H ≤ 30 := by omega
  have hHm : H ≤ l.length := by omega
  have hmin : min (l.length : Int) 30 = (H : Int) := by omega
  have hmin2 : (if (30 : Int) < (l.length : Int) then (30 : Int) else (l.length : Int)) = (H : Int) := by split <;> omega
  have b1 : (0 : Int) ≤ (H : Int) := by omega
  have b2' : (H : Int) ≤ (c : Int) := by omega
  have HRT : Hid (Rd w w.heap.size a (l.take H).length (l.take H)) := by
    show Rd _ _ _ _ _
    have e : (l.take H).length = H := by rw [List.length_take]; omega
    rw [e]
    exact rd_take hr hHm
  have HOT : Hid (∀ x ∈ l.take H, Ok64 x) := fun x hx => hox x (List.mem_of_mem_take hx)
  have hlt : (l.take H).length = H := by rw [List.length_take]; omega
  have HLT := Lib.hid hlt
  clear sS sH hr hox hry hoy hH hlt
  go_enter Try.func8, Try.ntmps8
  go_wp2_with fail
  refine W0.out.mono ?_
  rintro e w1 ⟨rfl, hb1⟩
  clear W0
  go_wp2_with fail
  refine (within_any n0 4 w1 hn0 hn1 (by omega) (by omega)).mono ?_
  rintro e w1' ⟨rfl, rfl⟩
  obtain ⟨d, hd⟩ : ∃ d : Nat, n0 % 4 = (d : Int) := ⟨(n0 % 4).toNat, by omega⟩
  rw [hd]
  obtain ⟨n, hn⟩ : ∃ n : Nat, d + 1 = n := ⟨_, rfl⟩
  have hnz : (1 : Int) + (d : Int) = (n : Int) := by omega
  have h1 : 1 ≤ n := by omega
  have h4 : n ≤ 4 := by omega
  have QR := roundOf_any h1 h4 a c (l.take H) (by rw [HLT.out]; omega) w1 (rd_ext HRT.out hb1) HOT.out
  rw [HLT.out] at QR
  have HQR := Lib.hid QR
  have HG := Lib.hid (roundL_gm h1 (show n ≤ 6 by omega) (l := l.take H) (by rw [HLT.out]; omega))
  have HVB : Hid (∀ S, 0 ≤ val (roundL n (l.take H)) S ∧ val (roundL n (l.take H)) S ≤ 150) := roundL_val (by rw [HLT.out]; omega)
  have HCV := Lib.hid (roundL_conv n (l.take H))
  have HGL := Lib.hid (roundL_len n (l.take H))
  clear hd hn0 hn1 hn QR HRT HOT
  generalize roundL n (l.take H) = V at *
  go_wp2_with fail
  refine HQR.out.mono ?_
  rintro e w2 ⟨v2, rfl, o2, hb2⟩
  clear HQR hmin hmin2
  have hb02 := ext_trans hb1 hb2
  obtain ⟨a2, c2, rfl, hc2, _⟩ := own_slice o2
  have R2 := Lib.hid (Rd.of_own o2)
  have hp6 := pow6 (show n ≤ 6 by omega)
  have hp1 := pow1 n
  have HZ0 : Hid (val V 0 = 0) := HG.out.zero
  have HCS := Lib.hid (core_sh HCV.out HZ0.out)
  have hal := allO_len h1 (show n ≤ 6 by omega)
  rw [hal] at HCS
  have HGT : Hid (Gm n (funL (2 ^ n) (fun S => val V S * (fact n : Int)))) := funL_gm h1 (by omega) (fun S _ => by
    have q := HVB.out S
    have f := fact4 h4
    have f1 : (0 : Int) ≤ (fact n : Int) := by omega
    have p1 := Int.mul_nonneg q.1 f1
    have p2 := Int.mul_le_mul_of_nonneg_right q.2 f1
    omega) (by rw [HZ0.out]; simp)
  have HHA : Hid (holdA n (funL (2 ^ n) (fun S => val V S * (fact n : Int))) (shL n V) = true ∧ hdchk n (funL (2 ^ n) (fun S => val V S * (fact n : Int))) (shL n V) = 0) := by
    have hc : hdchk n (funL (2 ^ n) (fun S => val V S * (fact n : Int))) (shL n V) = 0 := by
      unfold hdchk
      rw [if_neg (by simpa using HGT.out.chk), if_neg (by rw [shL_len]; simp), if_neg (by simpa using sh_small h1 (show n ≤ 6 by omega) (fun S => by have := HVB.out S; omega))]
    refine ⟨?_, hc⟩
    unfold holdA
    rw [hc, Int.toNat_natCast]
    have : coreB n (funL (2 ^ n) (fun S => val V S * (fact n : Int))) (shL n V) = true := coreB_iff.2 (core_congr (fun S hS => (funL_at (fun S => val V S * (fact n : Int)) hS).symm) (fun y hy => by
      have hy := mem_sides.1 hy
      unfold xI
      rw [shL_at V (show y.toNat < n by omega)]
      congr 1
      omega) HCS.out)
    rw [this]
    rfl
  obtain ⟨N, hN⟩ : ∃ N, 2 ^ n = N := ⟨_, rfl⟩
  rw [hN] at HGL HGT HHA hp6 hp1 hc2 R2 ⊢
  have HN := Lib.hid hN
  clear o2 hb1 hb2 hal HCS HCV hN
  go_wp2_with fail
  refine (share_useW SS.out HG.out HGL.out _ c2 hc2 w2 R2.out).mono ?_
  rintro e w3 ⟨a3, c3, rfl, hc3, r3, hb3⟩
  have hb03 := ext_trans hb02 hb3
  have R3 := Lib.hid r3
  have R23 := Lib.hid (rd_ext R2.out hb3)
  have HSL := Lib.hid (shL_len n V)
  clear r3 hb3 hb02 R2 SS
  have HFN : Hid (fact n ≤ 24) := fact4 h4
  go_wp2_with fail
  go_loop [10, 11] (fun mv kv => ∃ t : Nat, 2 ≤ t ∧ t ≤ n + 1 + 1 ∧ (t ≤ n + 1 ∨ n = 0) ∧ kv = .int .i64 t ∧ mv = .int .i64 ((fact (t - 1) : Nat) : Int)) (fun _ kv => n + 2 - (intOf kv).toNat)
  case atStart => exact ⟨2, Nat.le_refl _, by omega, by omega, rfl, rfl⟩
  case round =>
    obtain ⟨t, ht2, htn, htm, rfl, rfl⟩ := hrel
    by_cases htl : t ≤ n
    · have hf1 := fact_le6 (t - 1) (by omega)
      have hf2 := fact_le6 t (by omega)
      have e1 : ((fact (t - 1) : Nat) : Int) * (t : Int) = ((fact t : Nat) : Int) := by
        obtain ⟨s, rfl⟩ : ∃ s, t = s + 1 := ⟨t - 1, by omega⟩
        rw [Nat.add_sub_cancel, fact]
        simp
      have HF : Hid (fact (t + 1 - 1) = fact t) := by show _ = _; rw [Nat.add_sub_cancel]
      generalize fact (t - 1) = F1 at *
      generalize fact t = F2 at *
      go_wp2
      go_round
      case rel => exact ⟨t + 1, by omega, by omega, .inl (by omega), by go_num, by rw [HF.out]⟩
      case measure => simp [intOf]; omega
    · have hte : t = n + 1 := by omega
      have HF : Hid (fact (t - 1) = fact n) := by show _ = _; rw [hte, Nat.add_sub_cancel]
      rw [HF.out]
      have htz : ¬ (t : Int) ≤ (n : Int) := by omega
      have hfn := HFN.out
      clear hte HF HFN
      generalize fact n = FN at *
      have hmk : ∀ W : World, (Instr.makeSlice 22 (.int .i64 N) (.int .i64 N)).run Try.prog W = .ok (.slice (some ⟨W.heap.size, 0, none⟩) N N) (W.alloc (.cells (zeros N) 3)) := make_ints N (by omega)
      have own0 := own_lit w3 3 (List.replicate N 0) (zeros N) rfl (by unfold maxLen; simp; omega)
      rw [List.length_replicate, filL_zero N (fun S => val V S * (FN : Int))] at own0
      have hb0 : Below w3.heap.size w3 (w3.alloc (.cells (zeros N) 3)) := (Below.refl _ w3).alloc (Nat.le_refl _) _
      have HST : Hid (∀ k, k < N → (filL N (fun S => val V S * (FN : Int)) k).set k (val V k * (FN : Int)) = filL N (fun S => val V S * (FN : Int)) (k + 1)) := fun k hk => filL_set (fun S => val V S * (FN : Int)) hk
      have HEN := Lib.hid (filL_end N (fun S => val V S * (FN : Int)))
      have HPB : Hid (∀ k, 0 ≤ val V k * (FN : Int) ∧ val V k * (FN : Int) ≤ 3600) := fun k => by
        have q := HVB.out k
        have f1 : (0 : Int) ≤ (FN : Int) := by omega
        have p1 := Int.mul_nonneg q.1 f1
        have p2 := Int.mul_le_mul_of_nonneg_right q.2 f1
        omega
      obtain ⟨F, hF⟩ : ∃ F : Nat → Int, (fun S => val V S * (FN : Int)) = F := ⟨_, rfl⟩
      rw [hF] at HST HEN own0 HHA
      clear hF HGT
      go_wp2_with fail
      clear hmk
      generalize w3.alloc (.cells (zeros N) 3) = w4 at *
      obtain ⟨g, hg⟩ : ∃ g, g = w3.heap.size := ⟨_, rfl⟩
      have hg1 : w3.heap.size ≤ g := by omega
      have own1 : w4.ownsRow w3.heap.size 3 1 (.slice (some ⟨g, 0, none⟩) N N) N (I (filL N F 0)) := by rw [hg]; exact own0
      rw [← hg]
      clear own0 hg
      obtain ⟨bv, ov, e2', hbv, hcv⟩ := R23.out.2 (by omega)
      subst e2'
      have HCV : Hid (∀ j, j < N → w3.cell? ⟨bv, ov + j, none⟩ = some (.int .i64 (val V j))) := hcv
      clear hcv
      go_loopw [52] (fun iv wr => ∃ k : Nat, k ≤ N ∧ iv = .int .i64 k ∧ wr.ownsRow w3.heap.size 3 1 (.slice (some ⟨g, 0, none⟩) N N) N (I (filL N F k)) ∧ Below w3.heap.size w3 wr) (fun iv _ => N - (intOf iv).toNat)
      case atStart => exact ⟨0, Nat.zero_le _, rfl, own1, hb0⟩
      case round =>
        obtain ⟨k, hk, rfl, own, hbel⟩ := hrel
        clear own1 hb0
        by_cases hkN : k < N
        · have r1 : wr.cell? ⟨bv, ov + k, none⟩ = some (.int .i64 (val V k)) := (hbel.cell (by show bv < _; omega)).trans (HCV.out k hkN)
          have hst := HST.out k hkN
          have hpb := HPB.out k
          obtain ⟨pr, hpr⟩ : ∃ pr, val V k * (FN : Int) = pr := ⟨_, rfl⟩
          rw [hpr] at hst hpb
          generalize val V k = x1 at *
          have ck := own_cell own k hkN
          have fk := own.frozenAt k
          obtain ⟨s1, g1⟩ := own.stored k (.int .i64 pr)
          have es : (I (filL N F k)).set k (.int .i64 pr) = I (filL N F (k + 1)) := by
            rw [← hst]; unfold I; rw [List.map_set]
          rw [es] at s1
          have hb5 := hbel.grown g1 hbel.size (fun z hz2 => by injection hz2 with hz2; omega)
          clear es g1 hst own hbel
          go_wp2
          go_roundw
          case rel => exact ⟨k + 1, by omega, by go_num, s1, hb5⟩
          case measure => simp [intOf]; omega
        · obtain rfl : k = N := by omega
          rw [HEN.out] at own
          have hb0r := ext_trans hb03 hbel
          have LT : LstG wr (some ⟨g, 0, none⟩) k k (funL k F) := ⟨Rd.of_own own, by omega, Nat.le_refl _⟩
          have LS : LstG wr a3 n c3 (shL n V) := ⟨rd_ext R3.out hbel, by omega, hc3⟩
          have Q := Lib.hid (SH.out n (some ⟨g, 0, none⟩) k k (funL k F) a3 n c3 (shL n V) wr LT LS)
          rw [HHA.out.1, HHA.out.2] at Q
          clear own hbel hb03 HST HEN HCV LT LS R3 R23 HHA HPB HVB HG HZ0 HSL HGL
          go_wp2_with fail
          refine Q.out.mono ?_
          rintro e w5 ⟨rfl, hb5⟩
          have hb05 := ext_trans hb0r hb5
          clear Q hb5 hb0r
          have QG := gameOf_any h1 (show n ≤ 6 by omega) ay ly.length cy ly w5 (rd_ext HRY.out hb05) (by omega) HOY.out
          have HGZ := Lib.hid (gameL_gm h1 (show n ≤ 6 by omega) ly)
          rw [HN.out] at QG
          have HQG := Lib.hid QG
          clear QG
          generalize gameL n ly = Z at *
          go_wp2_with fail
          refine HQG.out.mono ?_
          rintro e w6 ⟨v6, rfl, o6, hb6⟩
          have hb06 := ext_trans hb05 hb6
          obtain ⟨a6, c6, rfl, hc6, _⟩ := own_slice o6
          have R6 := Lib.hid (Rd.of_own o6)
          clear HQG o6 hb6 hb05
          have hmk : ∀ W : World, (Instr.makeSlice 22 (.int .i64 n) (.int .i64 n)).run Try.prog W = .ok (.slice (some ⟨W.heap.size, 0, none⟩) n n) (W.alloc (.cells (zeros n) 3)) := make_ints n (by omega)
          have own7 := own_lit w6 3 (List.replicate n 0) (zeros n) rfl (by unfold maxLen; simp; omega)
          rw [List.length_replicate] at own7
          have b7 : Below w6.heap.size w6 (w6.alloc (.cells (zeros n) 3)) := (Below.refl _ w6).alloc (Nat.le_refl _) _
          have LZ : LstG (w6.alloc (.cells (zeros n) 3)) a6 k c6 Z := ⟨rd_ext R6.out b7, by omega, hc6⟩
          have L0 : LstG (w6.alloc (.cells (zeros n) 3)) (some ⟨w6.heap.size, 0, none⟩) n n (List.replicate n 0) := ⟨Rd.of_own own7, by omega, Nat.le_refl _⟩
          have Q := Lib.hid (SH.out n a6 k c6 Z (some ⟨w6.heap.size, 0, none⟩) n n (List.replicate n 0) _ LZ L0)
          have hdc : hdchk n Z (List.replicate n 0) = 0 := by
            unfold hdchk
            rw [if_neg (by simpa using HGZ.out.chk), if_neg (by simp), if_neg]
            intro q
            apply q
            intro x hx
            have := List.eq_of_mem_replicate hx
            omega
          have HHZ : Hid (holdA n Z (List.replicate n 0) = true → (∀ i, i < n → val Z (2 ^ i) ≤ 0) ∧ val Z (k - 1) = 0) := fun q => by
            unfold holdA at q
            rw [hdc, Int.toNat_natCast] at q
            have q2 : coreB n Z (List.replicate n 0) = true := by simpa using q
            have q3 := core_zero (core_congr (v' := val Z) (x' := fun _ => 0) (fun S _ => rfl) (fun y _ => by
              unfold xI
              rw [List.getD_eq_getElem?_getD]
              by_cases c : y.toNat < n
              · rw [List.getElem?_replicate, if_pos c]; rfl
              · rw [List.getElem?_replicate, if_neg c]; rfl) (coreB_iff.1 q2))
            rw [HN.out] at q3
            exact q3
          rw [hdc] at Q
          have hb07 := ext_trans hb06 b7
          have R67 := Lib.hid (rd_ext R6.out b7)
          clear own7 LZ L0 hdc R6 hb06 b7 SH
          generalize holdA n Z (List.replicate n 0) = no at *
          go_wp2_with fail
          clear hmk
          refine Q.out.mono ?_
          rintro e w8 ⟨rfl, hb8⟩
          have hb08 := ext_trans hb07 hb8
          obtain ⟨bz, oz, e6', hbz, hcz⟩ := (rd_ext R67.out hb8).2 (by omega)
          subst e6'
          have HCZ : Hid (∀ j, j < k → w8.cell? ⟨bz, oz + j, none⟩ = some (.int .i64 (val Z j))) := hcz
          clear Q hb8 hb07 R67 hcz
          generalize w6.alloc (.cells (zeros n) 3) = w7 at *
          have HLO : Hid (∀ i, loneB Z (i + 1) = (loneB Z i && decide (val Z (2 ^ i) ≤ 0))) := loneB_succ Z
          have HLA : Hid ((∀ i, i < n → val Z (2 ^ i) ≤ 0) → loneB Z n = true) := fun q => by
            unfold loneB
            rw [List.all_eq_true]
            intro i hi
            exact decide_eq_true (q i (List.mem_range.1 hi))
          have HPL : Hid (∀ i, i < n → 2 ^ i < k) := fun i hi => by rw [← HN.out]; exact Nat.pow_lt_pow_right (by omega) hi
          go_wp2_with fail
          go_loop [19, 84] (fun lv iv => ∃ i : Nat, i ≤ n ∧ iv = .int .i64 i ∧ lv = .bool (loneB Z i)) (fun _ iv => n - (intOf iv).toNat)
          case atStart => exact ⟨0, Nat.zero_le _, rfl, rfl⟩
          case round =>
            obtain ⟨i, hi, rfl, rfl⟩ := hrel
            by_cases hin : i < n
            · obtain ⟨P2, hP2⟩ : ∃ P2 : Nat, 2 ^ i = P2 := ⟨_, rfl⟩
              have hpl := HPL.out i hin
              have hlo := HLO.out i
              have hpw := gm_pw (show i ≤ 6 by omega)
              rw [hP2] at hpl hlo hpw
              have r1 := HCZ.out P2 hpl
              have HLX := Lib.hid hlo
              clear hlo hP2
              generalize val Z P2 = zz at *
              generalize loneB Z i = lo at *
              cases lo with
              | true =>
                go_wp2
                go_round
                case rel => exact ⟨i + 1, by omega, by go_num, by rw [HLX.out]; simp⟩
                case measure => simp [intOf]; omega
              | false =>
                go_wp2
                go_round
                case rel => exact ⟨i + 1, by omega, by go_num, by rw [HLX.out]; simp⟩
                case measure => simp [intOf]; omega
            · obtain rfl : i = n := by omega
              have hlst := HCZ.out (k - 1) (by omega)
              obtain ⟨j1, hj1⟩ : ∃ j1 : Nat, k - 1 = j1 := ⟨_, rfl⟩
              have z1 : (k : Int) - 1 = (j1 : Int) := by omega
              have z2 : (j1 : Int) < (k : Int) := by omega
              rw [hj1] at hlst HHZ
              clear hj1
              have b9 : Below w8.heap.size w8 (w8.alloc (.cells #[.int .i64 0, .int .i64 0, .int .i64 0] 23)) := (Below.refl _ _).alloc (Nat.le_refl _) _
              have hb09 := ext_trans hb08 b9
              have hlst9 := (b9.cell (p := ⟨bz, oz + j1, none⟩) (by exact hbz)).trans hlst
              have G9 := Lib.hid (good_zero w8.heap.size 0 3 3 _ (by omega) (zeros_at w8 23 3 #[.int .i64 0, .int .i64 0, .int .i64 0] rfl))
              cases no with
              | false =>
                clear HHZ HLA HLO
                generalize loneB Z i = lo at *
                go_wp2_with fail
                refine G9.out.mono ?_
                rintro e w10 ⟨rfl, rfl⟩
                go_wp2
                go_ret
                exact ⟨rfl, hb09⟩
              | true =>
                obtain ⟨q1, q2⟩ := HHZ.out rfl
                have hlo := HLA.out q1
                rw [hlo]
                rw [q2] at hlst hlst9
                clear HHZ HLA HLO q1 q2 hlo
                go_wp2_with fail
                refine G9.out.mono ?_
                rintro e w10 ⟨rfl, rfl⟩
                go_wp2
                go_ret
                exact ⟨rfl, hb09⟩
end Go.Proofs.Ythcaipnlgbnfkaa

/-
  Package power: Turns, whatever is handed in that a machine can hold; nothing that was there is written.
-/
import Derived.Test.YthcaipnlgbnfkaaCPwCum
import Derived.Test.YthcaipnlgbnfkaaPush
import Derived.Deep.RegionLaw
import Derived.BigRegion
import Derived.RegionTactic
import Derived.Deep.DeepCutAuto
namespace Go.Proofs.Ythcaipnlgbnfkaa
open Go.RowKit Fm
set_option linter.unusedVariables false

theorem pwTurnsE : PwTurnsE := by
  intro a m c P q w hL ht
  have HC := Lib.hid (pwcheck_any a m c P q w hL)
  have hne : (wchk P q != 0) = true := by simpa using ht
  clear ht hL
  generalize wchk P q = r at *
  go_enter Try.func50, Try.ntmps50
  go_wp2_with fail
  refine HC.out.mono ?_
  rintro e w1 ⟨rfl, rfl⟩
  clear HC
  go_wp2
  go_ret2
  exact ⟨none, 0, rfl, Below.refl _ w⟩

set_option maxHeartbeats 2000000 in
set_option maxRecDepth 100000 in
theorem pwTurns : PwTurns := by
  intro a m c P q w hL g
  have HC := Lib.hid (pwcheck_any a m c P q w hL)
  rw [g.chk] at HC
  obtain ⟨hr, _, hmc⟩ := hL
  obtain ⟨n, rfl⟩ : ∃ n, n = m := ⟨_, rfl⟩
  have hln : P.length = n := hr.1
  have h1 := g.pos
  have h6 := g.le
  rw [hln] at h1 h6
  have hq : q ≤ 6000 := by have h3 := g.q2; have h4 := hv_le6 (S := 2 ^ n - 1) g.bd hln h6; rw [hv_full] at h4; rw [hln] at h3; omega
  have QA : Hid (∀ W : World, Calls Try.prog 89 #[.slice a n c] W fun e w' => e = .returned (.int .i64 ((2 ^ n - 1 : Nat) : Int)) ∧ W = w') := fun W => pwAll_any a n c W h6
  have QC : Hid (∀ (S i : Nat) (W : World), S < 2 ^ n → i < n → Below w.heap.size w W → Calls Try.prog 91 #[.slice a n c, .int .i64 q, .int .i64 S, .int .i64 i] W fun e w' => e = .returned (.bool (turnB (wt P) n q i S)) ∧ W = w') := fun S i W hS hi hW => pwCrit_any g.bd hln h6 (by have := pow_le6 h6; omega) hi hq a c W w.heap.size (hr.below hW (Nat.le_refl _))
  have HRES : Hid (cumL n (tuS (wt P) n q) (2 ^ n) 0 = tuL P q) := by
    show _ = _
    rw [cumL_end]
    unfold tuL
    rw [hln]
    exact fnL_congr n (fun j hj => by rw [Int.toNat_natCast, tu_sets h1 h6 hj])
  have hll : (tuL P q).length = n := by rw [tuL_len, hln]
  have HF : Hid (∀ i S, tuS (wt P) n q i S = if turnB (wt P) n q i S = true then fact (onesN S - 1) * fact (n - onesN S) else 0) := fun _ _ => rfl
  have HFB : Hid (∀ i S, tuS (wt P) n q i S ≤ 518400) := fun i S => by
    unfold tuS
    split
    · have := ones_le S
      exact Nat.mul_le_mul (fact_le6 _ (by omega)) (fact_le6 _ (by omega))
    · omega
  have HBD : Hid (∀ i s, sN (tuS (wt P) n q i) s ≤ 518400 * s) := fun i s => sN_bdC (HFB.out i) s
  have QV : Hid (∀ (S i : Nat) (W : World), S < 2 ^ n → i < n → turnB (wt P) n q i S = true → Calls Try.prog 92 #[.int .i64 S, .int .i64 n] W fun e w' => e = .returned (.int .i64 (fact (onesN S - 1) * fact (n - onesN S) : Nat)) ∧ W = w') := fun S i W hS hi ht => by
    refine pwArr_any n S h6 hS (ones_pos (i := i) (by omega) ?_) W
    unfold turnB at ht
    cases hb : S.testBit i with
    | true => rfl
    | false => rw [hb] at ht; cases ht
  have hmk : ∀ W : World, (Instr.makeSlice 22 (.int .i64 n) (.int .i64 n)).run Try.prog W = .ok (.slice (some ⟨W.heap.size, 0, none⟩) n n) (W.alloc (.cells (zeros n) 3)) := make_ints n (by omega)
  generalize tuS (wt P) n q = f at *
  obtain ⟨N, hN⟩ : ∃ N : Nat, 2 ^ n - 1 = N := ⟨_, rfl⟩
  have hp := Nat.two_pow_pos n
  have hN64 : N < 64 := by have := pow_le6 h6; omega
  have hN2 : 2 ^ n = N + 1 := by omega
  rw [hN] at QA
  rw [hN2] at QC QV HRES
  generalize tuL P q = RES at *
  clear hp hN hN2 g hr hq
  go_enter Try.func50, Try.ntmps50
  go_wp2_with fail
  refine HC.out.mono ?_
  rintro e w1 ⟨rfl, rfl⟩
  clear HC
  have own0 := own_lit w 3 (List.replicate n 0) (zeros n) rfl (by unfold maxLen; simp; omega)
  rw [List.length_replicate, cumL_zero n f] at own0
  have hb0 : Below w.heap.size w (w.alloc (.cells (zeros n) 3)) := (Below.refl _ w).alloc (Nat.le_refl _) _
  have QA2 := Lib.hid (QA.out (w.alloc (.cells (zeros n) 3)))
  go_wp2_with fail
  refine QA2.out.mono ?_
  rintro e w1 ⟨rfl, rfl⟩
  clear hmk QA QA2
  go_wp2_with fail
  generalize w.alloc (.cells (zeros n) 3) = w2 at *
  obtain ⟨g, hg⟩ : ∃ g, w.heap.size = g := ⟨_, rfl⟩
  have hgl : w.heap.size ≤ g := by omega
  have own1 : w2.ownsRow w.heap.size 3 1 (.slice (some ⟨g, 0, none⟩) n n) n (I (cumL n f 0 0)) := by rw [hg] at own0 ⊢; exact own0
  rw [show Value.slice (some ⟨w.heap.size, 0, none⟩) n n = Value.slice (some ⟨g, 0, none⟩) n n by rw [hg]]
  clear own0 hg
  go_loopw [22] (fun sv wr => ∃ s : Nat, s ≤ N + 1 ∧ sv = .int .i64 s ∧ wr.ownsRow w.heap.size 3 1 (.slice (some ⟨g, 0, none⟩) n n) n (I (cumL n f s 0)) ∧ Below w.heap.size w wr) (fun sv _ => N + 1 - (intOf sv).toNat)
  case atStart => exact ⟨0, Nat.zero_le _, rfl, own1, hb0⟩
  case round =>
    obtain ⟨s, hs, rfl, own, hbel⟩ := hrel
    clear own1 hb0
    obtain ⟨wo, rfl⟩ : ∃ wo, wo = wr := ⟨_, rfl⟩
    by_cases hsN : s < N + 1
    · have d1 : decide ((s : Int) < (N : Int) + 1) = true := decide_eq_true (by omega)
      go_wp2_with fail
      go_loopw [27] (fun iv wr => ∃ i : Nat, i ≤ n ∧ iv = .int .i64 i ∧ wr.ownsRow w.heap.size 3 1 (.slice (some ⟨g, 0, none⟩) n n) n (I (cumL n f s i)) ∧ Below w.heap.size w wr) (fun iv _ => n - (intOf iv).toNat)
      case atStart => exact ⟨0, Nat.zero_le _, rfl, own, hbel⟩
      case round =>
        obtain ⟨i, hi, rfl, own3, hbel3⟩ := hrel
        clear own hbel
        by_cases hin : i < n
        · have HD := Lib.hid (QC.out s i wr hsN hin hbel3)
          go_wp2_with fail
          refine HD.out.mono ?_
          rintro e w4 ⟨rfl, rfl⟩
          clear HD
          have HV := Lib.hid (HF.out i s)
          cases hbt : turnB (wt P) n q i s with
          | true =>
            rw [hbt] at HV
            have HQ : Hid (∀ W : World, Calls Try.prog 92 #[.int .i64 s, .int .i64 n] W fun e w' => e = .returned (.int .i64 (f i s : Nat)) ∧ W = w') := fun W => by
              have := QV.out s i W hsN hin hbt
              rw [HV.out]
              exact this
            have hfb := HFB.out i s
            have hbx := HBD.out i s
            have hz := hbel3.size
            have ck := own_cell own3 i hin
            have fk := own3.frozenAt i
            rw [cumL_at f s hin] at ck
            obtain ⟨s1, g1⟩ := own3.stored i (.int .i64 (((sN (f i) s : Nat) : Int) + (f i s : Nat)))
            have es : (I (cumL n f s i)).set i (.int .i64 (((sN (f i) s : Nat) : Int) + (f i s : Nat))) = I (cumL n f s (i + 1)) := by
              have e1 := cumL_set f s hin
              rw [Int.natCast_add] at e1
              rw [← e1]; unfold I; rw [List.map_set]
            rw [es] at s1
            have hb5 := hbel3.grown g1 hz (fun y hy => by injection hy with hy; have := (own3.lt g rfl).1; omega)
            clear es g1 own3 hbel3 HV hbt
            generalize sN (f i) s = x at *
            generalize f i s = y at *
            go_wp2_with fail
            go_region_law (first | (go_simp; go_at_call 92; with_reducible refine (HQ.out _).mono ?_; rintro e w5 ⟨rfl, rfl⟩))
            all_goals
              go_wp2
              go_roundw
              case rel => exact ⟨i + 1, by omega, by go_num, own_drewN s1 _, below_drewN hb5 _⟩
              case measure => simp [intOf]; omega
          | false =>
            rw [hbt] at HV
            have hfx : f i s = 0 := HV.out
            rw [cumL_skip f s hfx] at own3
            clear hbt HV hfx
            go_wp2
            go_roundw
            case rel => exact ⟨i + 1, by omega, by go_num, own3, hbel3⟩
            case measure => simp [intOf]; omega
        · obtain rfl : i = n := by omega
          rw [cumL_next] at own3
          go_wp2
          go_roundw
          case rel => exact ⟨s + 1, by omega, by go_num, own3, hbel3⟩
          case measure => simp [intOf]; omega
    · obtain rfl : s = N + 1 := by omega
      rw [HRES.out] at own
      go_wp2
      go_ret2
      refine ⟨some ⟨g, 0, none⟩, n, by rw [hll]; rfl, Nat.le_of_eq hll, by unfold maxLen; omega, ?_, hbel⟩
      rw [hll]
      exact Rd.of_own own
end Go.Proofs.Ythcaipnlgbnfkaa

/-
  Package power: Check and Wins, whatever is handed in that a machine can hold; nothing that was there is written.
-/
import Derived.Test.YthcaipnlgbnfkaaCPwBase
namespace Go.Proofs.Ythcaipnlgbnfkaa
open Go.RowKit Fm
set_option linter.unusedVariables false

set_option maxHeartbeats 1000000 in
set_option maxRecDepth 100000 in
theorem pwcheck_any (a : Option Addr) (m c : Nat) (P : List Int) (q : Int) (w : World) (hL : LstW w a m c P) :
    Calls Try.prog 88 #[.slice a m c, .int .i64 q] w fun e w' => e = .returned (.int .i64 (wchk P q)) ∧ w = w' := by
  obtain ⟨hr, hm, hmc⟩ := hL
  have hln : P.length = m := hr.1
  by_cases h1 : P.length = 0 ∨ 6 < P.length
  · have e : wchk P q = 2 := by unfold wchk; rw [if_pos h1]
    rw [e]
    rw [hln] at h1
    clear e hr hln
    rcases h1 with h1 | h1
    · subst h1
      go_enter Try.func88, Try.ntmps88
      go_wp2
      go_ret
      exact ⟨rfl, rfl⟩
    · go_enter Try.func88, Try.ntmps88
      go_wp2
      go_ret
      exact ⟨rfl, rfl⟩
  · have e : wchk P q = if ¬ (∀ x ∈ P, 0 ≤ x ∧ x ≤ 1000) then 1 else if q < 1 ∨ P.sum < q then 3 else 0 := by unfold wchk; rw [if_neg h1]
    have hm1 : 1 ≤ m := by omega
    have hm6 : m ≤ 6 := by omega
    have HBAD : Hid (∀ k, k < m → ¬ (0 ≤ P.getD k 0 ∧ P.getD k 0 ≤ 1000) → wchk P q = 1) := fun k hk hb => by
      rw [e, if_pos (fun q => hb (q _ (getD_mem P k (by rw [hln]; exact hk))))]
    obtain ⟨N, hN⟩ : ∃ N : Nat, 2 ^ m - 1 = N := ⟨_, rfl⟩
    have hN64 : N < 64 := by have := pow_le6 hm6; omega
    have QA : Hid (Calls Try.prog 89 #[.slice a m c] w fun e w' => e = .returned (.int .i64 (N : Int)) ∧ w = w') := by
      have := pwAll_any a m c w hm6
      rw [hN] at this
      exact this
    have HEND : Hid ((∀ j, j < m → 0 ≤ P.getD j 0 ∧ P.getD j 0 ≤ 1000) → ∃ T : Nat, T ≤ 6000 ∧ (wchk P q = if q < 1 ∨ (T : Int) < q then 3 else 0) ∧ Calls Try.prog 90 #[.slice a m c, .int .i64 N] w fun e w' => e = .returned (.int .i64 T) ∧ w = w') := fun hall => by
      have hb : ∀ x ∈ P, 0 ≤ x ∧ x ≤ 1000 := fun x hx => by
        obtain ⟨i, hi, rfl⟩ := List.getElem_of_mem hx
        rw [← getD_get hi]
        exact hall i (by omega)
      refine ⟨hv (wt P) m N, hv_le6 hb hln hm6, ?_, pwWeight_any hb hm6 hN64 a c w _ hr⟩
      rw [e, if_neg (by simpa using hb), ← hN, hv_full, wt_sum hb, hln]
    have HR := Lib.hid hr
    clear e h1 hln hr hm hN
    generalize wchk P q = res at *
    go_enter Try.func88, Try.ntmps88
    go_wp2_with fail
    go_loop [17] (fun iv => ∃ k : Nat, k ≤ m ∧ iv = .int .i64 k ∧ ∀ j, j < k → 0 ≤ P.getD j 0 ∧ P.getD j 0 ≤ 1000) (fun iv => m - (intOf iv).toNat)
    case atStart => exact ⟨0, Nat.zero_le _, rfl, fun j hj => by omega⟩
    case round =>
      obtain ⟨k, hk, rfl, hall⟩ := hrel
      have HALL := Lib.hid hall
      clear hall
      by_cases hkm : k < m
      · obtain ⟨b, o, rfl, hb, hcell⟩ := HR.out.at_ hkm
        have HB := Lib.hid (HBAD.out k hkm)
        have HN : Hid (0 ≤ P.getD k 0 ∧ P.getD k 0 ≤ 1000 → ∀ j, j < k + 1 → 0 ≤ P.getD j 0 ∧ P.getD j 0 ≤ 1000) := fun q j hj => by
          by_cases e : j = k
          · subst e; exact q
          · exact HALL.out j (by omega)
        generalize P.getD k 0 = x at *
        by_cases c1 : x < 0
        · obtain rfl : res = 1 := HB.out (by omega)
          go_wp2
          go_ret
          exact ⟨rfl, rfl⟩
        · by_cases c2 : 1000 < x
          · obtain rfl : res = 1 := HB.out (by omega)
            go_wp2
            go_ret
            exact ⟨rfl, rfl⟩
          · have HX := Lib.hid (HN.out ⟨by omega, by omega⟩)
            go_wp2
            go_round
            case rel => exact ⟨k + 1, by omega, by go_num, HX.out⟩
            case measure => simp [intOf]; omega
      · obtain rfl : k = m := by omega
        obtain ⟨T, hT, he, hq⟩ := HEND.out HALL.out
        have HE := Lib.hid he
        have Q := Lib.hid hq
        clear he hq HEND HBAD
        by_cases c1 : q < 1
        · rw [if_pos (.inl c1)] at HE
          obtain rfl : res = 3 := HE.out
          go_wp2
          go_ret
          exact ⟨rfl, rfl⟩
        · go_wp2_with fail
          refine QA.out.mono ?_
          rintro e w' ⟨rfl, rfl⟩
          go_wp2_with fail
          refine Q.out.mono ?_
          rintro e w' ⟨rfl, rfl⟩
          by_cases c2 : (T : Int) < q
          · rw [if_pos (.inr c2)] at HE
            obtain rfl : res = 3 := HE.out
            go_wp2
            go_ret
            exact ⟨rfl, rfl⟩
          · rw [if_neg (by omega)] at HE
            obtain rfl : res = 0 := HE.out
            go_wp2
            go_ret
            exact ⟨rfl, rfl⟩
theorem pwCheck : PwCheck := fun a m c P q w hL => (pwcheck_any a m c P q w hL).mono fun _ _ ⟨h1, h2⟩ => ⟨h1, h2 ▸ Below.refl _ w⟩

set_option maxHeartbeats 1000000 in
set_option maxRecDepth 100000 in
theorem pwwins_any (a : Option Addr) (m c : Nat) (P : List Int) (q set : Int) (w : World) (hL : LstW w a m c P) :
    Calls Try.prog 49 #[.slice a m c, .int .i64 q, .int .i64 set] w fun e w' => e = .returned (.tuple #[.bool (winA P q set), .int .i64 (winE P q set)]) ∧ w = w' := by
  have HC := Lib.hid (pwcheck_any a m c P q w hL)
  by_cases h0 : wchk P q = 0
  · obtain ⟨k, rfl, g⟩ := wchk_ok h0
    have hln : P.length = m := hL.1.1
    have h1 := g.pos
    have h6 := g.le
    have hq1 := g.q1
    rw [hln] at h1 h6
    have eE : winE P k set = if set < 0 ∨ (2 ^ m : Nat) ≤ set then 1 else 0 := by unfold winE; rw [if_neg (by simpa using h0), hln]
    obtain ⟨N, hN⟩ : ∃ N : Nat, 2 ^ m - 1 = N := ⟨_, rfl⟩
    have hp := Nat.two_pow_pos m
    have hN64 : N < 64 := by have := pow_le6 h6; omega
    have eN : ((2 ^ m : Nat) : Int) = (N : Int) + 1 := by omega
    rw [eN] at eE
    have QA : Hid (Calls Try.prog 89 #[.slice a m c] w fun e w' => e = .returned (.int .i64 (N : Int)) ∧ w = w') := by
      have := pwAll_any a m c w h6
      rw [hN] at this
      exact this
    have QW : Hid (∀ S : Nat, S ≤ N → winE P k S = 0 → winA P k S = decide (k ≤ hv (wt P) m S) ∧ hv (wt P) m S ≤ 6000 ∧ Calls Try.prog 90 #[.slice a m c, .int .i64 S] w fun e w' => e = .returned (.int .i64 (hv (wt P) m S)) ∧ w = w') := fun S hS he => by
      have hS2 : S < 2 ^ P.length := by rw [hln]; omega
      refine ⟨?_, hv_le6 g.bd hln h6, pwWeight_any g.bd h6 (by omega) a c w _ hL.1⟩
      rw [(g.win hS2).2, hln]
      rfl
    have HA : Hid (winE P k set ≠ 0 → winA P k set = false) := fun h => by unfold winA; rw [decide_eq_false h]; rfl
    have HK : k ≤ 6000 := by have h3 := g.q2; have h4 := hv_le6 (S := 2 ^ m - 1) g.bd hln h6; rw [hv_full] at h4; rw [hln] at h3; omega
    rw [h0] at HC
    clear hL g hp eN hN h0 hln
    by_cases c1 : set < 0
    · rw [if_pos (.inl c1)] at eE
      have e2 := HA.out (by rw [eE]; decide)
      rw [eE, e2]
      clear eE e2 HA QW
      go_enter Try.func49, Try.ntmps49
      go_wp2_with fail
      refine HC.out.mono ?_
      rintro e w' ⟨rfl, rfl⟩
      go_wp2
      go_ret2
      exact ⟨rfl, rfl⟩
    · by_cases c2 : (N : Int) < set
      · rw [if_pos (.inr (by omega))] at eE
        have e2 := HA.out (by rw [eE]; decide)
        rw [eE, e2]
        clear eE e2 HA QW
        go_enter Try.func49, Try.ntmps49
        go_wp2_with fail
        refine HC.out.mono ?_
        rintro e w' ⟨rfl, rfl⟩
        go_wp2_with fail
        refine QA.out.mono ?_
        rintro e w' ⟨rfl, rfl⟩
        go_wp2
        go_ret2
        exact ⟨rfl, rfl⟩
      · rw [if_neg (by omega)] at eE
        obtain ⟨S, rfl⟩ : ∃ S : Nat, set = S := ⟨set.toNat, by omega⟩
        obtain ⟨e2, e3, q3⟩ := QW.out S (by omega) eE
        have Q := Lib.hid q3
        rw [eE, e2]
        clear eE e2 HA QW q3
        generalize hv (wt P) m S = H at *
        go_enter Try.func49, Try.ntmps49
        go_wp2_with fail
        refine HC.out.mono ?_
        rintro e w' ⟨rfl, rfl⟩
        go_wp2_with fail
        refine QA.out.mono ?_
        rintro e w' ⟨rfl, rfl⟩
        go_wp2_with fail
        refine Q.out.mono ?_
        rintro e w' ⟨rfl, rfl⟩
        go_wp2
        go_ret2
        exact ⟨rfl, rfl⟩
  · have e1 : winE P q set = wchk P q := by unfold winE; rw [if_pos h0]
    have e2 : winA P q set = false := by unfold winA; rw [decide_eq_false (by rw [e1]; exact h0)]; rfl
    rw [e1, e2]
    have hne : (wchk P q != 0) = true := by simpa using h0
    clear e1 e2 h0 hL
    generalize wchk P q = r at *
    go_enter Try.func49, Try.ntmps49
    go_wp2_with fail
    refine HC.out.mono ?_
    rintro e w' ⟨rfl, rfl⟩
    go_wp2
    go_ret2
    exact ⟨rfl, rfl⟩
theorem pwWins : PwWins := fun a m c P q s w hL => (pwwins_any a m c P q s w hL).mono fun _ _ ⟨h1, h2⟩ => ⟨h1, h2 ▸ Below.refl _ w⟩
end Go.Proofs.Ythcaipnlgbnfkaa

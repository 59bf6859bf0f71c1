/-
  Package power: critical: what it returns; nothing is written.
-/
import Derived.Test.YthcaipnlgbnfkaaCPwBase
namespace Go.Proofs.Ythcaipnlgbnfkaa
open Go.RowKit Fm
set_option linter.unusedVariables false

set_option maxHeartbeats 1000000 in
set_option maxRecDepth 100000 in
theorem pwCrit_any {P : List Int} {q m S i : Nat} (hb : ∀ x ∈ P, 0 ≤ x ∧ x ≤ 1000) (hl : P.length = m) (hm : m ≤ 6) (hS : S < 64) (hi : i < m) (hq : q ≤ 6000) (a : Option Addr) (c : Nat) (w : World) (B : Nat) (hr : Rd w B a m P) :
    Calls Try.prog 91 #[.slice a m c, .int .i64 q, .int .i64 S, .int .i64 i] w fun e w' => e = .returned (.bool (turnB (wt P) m q i S)) ∧ w = w' := by
  have QW := Lib.hid (pwWeight_any hb hm hS a c w B hr)
  have QH := Lib.hid (pwHas_any S i hS (by omega) w)
  have hv6 := hv_le6 (S := S) hb hl hm
  obtain ⟨x1, x2⟩ := wt_at hb (i := i) (by omega)
  obtain ⟨b, o, rfl, hbB, hcell⟩ := hr.at_ hi
  rw [x1] at hcell
  have HT : Hid (turnB (wt P) m q i S = (S.testBit i && (decide (q ≤ hv (wt P) m S) && decide (hv (wt P) m S < q + wt P i)))) := rfl
  clear x1 hr hb hl
  generalize hv (wt P) m S = H at *
  generalize wt P i = x at *
  generalize turnB (wt P) m q i S = r at *
  cases hbk : S.testBit i with
  | false =>
    rw [hbk] at HT QH
    obtain rfl : r = false := HT.out
    clear hbk HT
    go_enter Try.func91, Try.ntmps91
    go_wp2_with fail
    refine QW.out.mono ?_
    rintro e w' ⟨rfl, rfl⟩
    go_wp2_with fail
    refine QH.out.mono ?_
    rintro e w' ⟨rfl, rfl⟩
    go_wp2
    go_ret
    exact ⟨rfl, rfl⟩
  | true =>
    rw [hbk] at HT QH
    clear hbk
    by_cases c1 : q ≤ H
    · by_cases c2 : H < q + x
      · rw [decide_eq_true c1, decide_eq_true c2] at HT
        obtain rfl : r = true := HT.out
        have d1 : (q : Int) ≤ (H : Int) := by omega
        have d2 : (H : Int) - (x : Int) < (q : Int) := by omega
        clear HT
        go_enter Try.func91, Try.ntmps91
        go_wp2_with fail
        refine QW.out.mono ?_
        rintro e w' ⟨rfl, rfl⟩
        go_wp2_with fail
        refine QH.out.mono ?_
        rintro e w' ⟨rfl, rfl⟩
        go_wp2
        go_ret
        exact ⟨rfl, rfl⟩
      · rw [decide_eq_true c1, decide_eq_false c2] at HT
        obtain rfl : r = false := HT.out
        have d1 : (q : Int) ≤ (H : Int) := by omega
        have d2 : decide ((H : Int) - (x : Int) < (q : Int)) = false := decide_eq_false (by omega)
        clear HT
        go_enter Try.func91, Try.ntmps91
        go_wp2_with fail
        refine QW.out.mono ?_
        rintro e w' ⟨rfl, rfl⟩
        go_wp2_with fail
        refine QH.out.mono ?_
        rintro e w' ⟨rfl, rfl⟩
        go_wp2
        go_ret
        exact ⟨rfl, rfl⟩
    · rw [decide_eq_false c1] at HT
      obtain rfl : r = false := HT.out
      have d1 : decide ((q : Int) ≤ (H : Int)) = false := decide_eq_false (by omega)
      have d2 : decide (q ≤ H) = false := decide_eq_false c1
      clear HT
      go_enter Try.func91, Try.ntmps91
      go_wp2_with fail
      refine QW.out.mono ?_
      rintro e w' ⟨rfl, rfl⟩
      go_wp2_with fail
      refine QH.out.mono ?_
      rintro e w' ⟨rfl, rfl⟩
      go_wp2
      go_ret
      exact ⟨rfl, rfl⟩
end Go.Proofs.Ythcaipnlgbnfkaa

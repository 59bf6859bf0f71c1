/-
  Package worth: within and Check: what they return; nothing that was there is written.
-/
import Derived.Test.YtimjepakdldacaaM19
namespace Go.Proofs.Ytimjepakdldacaa
open Go.RowKit Fm
set_option linter.unusedVariables false

theorem wo_pw {n : Nat} (h : n ≤ 6) : wrap64 (2 ^ n) = ((2 ^ n : Nat) : Int) := by
  have : n = 0 ∨ n = 1 ∨ n = 2 ∨ n = 3 ∨ n = 4 ∨ n = 5 ∨ n = 6 := by omega
  rcases this with rfl | rfl | rfl | rfl | rfl | rfl | rfl <;> decide +kernel
/-- All of them within the limit. -/
def inB (lim : Int) (l : List Int) : Bool := l.all fun x => decide (-lim ≤ x) && decide (x ≤ lim)
theorem inB_iff {lim : Int} {l : List Int} : inB lim l = true ↔ ∀ x ∈ l, -lim ≤ x ∧ x ≤ lim := by
  unfold inB
  simp only [List.all_eq_true, Bool.and_eq_true, decide_eq_true_eq]
theorem inB_no {lim : Int} {l : List Int} {k : Nat} (hk : k < l.length) (h : ¬ (-lim ≤ l.getD k 0 ∧ l.getD k 0 ≤ lim)) : inB lim l = false := by
  cases q : inB lim l with
  | false => rfl
  | true => exact absurd (inB_iff.1 q _ (getD_mem l k hk)) h
theorem inB_yes {lim : Int} {l : List Int} (h : ∀ j, j < l.length → -lim ≤ l.getD j 0 ∧ l.getD j 0 ≤ lim) : inB lim l = true := inB_iff.2 fun x hx => by
  obtain ⟨i, hi, rfl⟩ := List.getElem_of_mem hx
  rw [← getD_get hi]
  exact h i hi

set_option maxHeartbeats 1000000 in
set_option maxRecDepth 100000 in
theorem woIn_any (lim : Int) (h1 : 0 ≤ lim) (h2 : lim ≤ 1000000000) (a : Option Addr) (m c : Nat) (l : List Int) (w : World) (B : Nat) (hr : Rd w B a m l) (hm : m ≤ 17592186044416) :
    Calls Try.prog 69 #[.slice a m c, .int .i64 lim] w fun e w' => e = .returned (.bool (inB lim l)) ∧ w = w' := by
  have hln : l.length = m := hr.1
  have HBAD : Hid (∀ k, k < m → ¬ (-lim ≤ l.getD k 0 ∧ l.getD k 0 ≤ lim) → inB lim l = false) := fun k hk h => inB_no (by omega) h
  have HEND : Hid ((∀ j, j < m → -lim ≤ l.getD j 0 ∧ l.getD j 0 ≤ lim) → inB lim l = true) := fun h => inB_yes (by rw [hln]; exact h)
  have HR := Lib.hid hr
  clear hr hln
  generalize inB lim l = res at *
  go_enter Try.func69, Try.ntmps69
  go_wp2_with fail
  go_loop [9] (fun iv => ∃ k : Nat, k ≤ m ∧ iv = .int .i64 k ∧ ∀ j, j < k → -lim ≤ l.getD j 0 ∧ l.getD j 0 ≤ lim) (fun iv => m - (intOf iv).toNat)
  case atStart => exact ⟨0, Nat.zero_le _, rfl, fun j hj => by omega⟩
  case round =>
    obtain ⟨k, hk, rfl, hall⟩ := hrel
    have HALL := Lib.hid hall
    clear hall
    by_cases hkm : k < m
    · obtain ⟨b, o, rfl, hb, hcell⟩ := HR.out.at_ hkm
      have HB := Lib.hid (HBAD.out k hkm)
      have HN : Hid (-lim ≤ l.getD k 0 ∧ l.getD k 0 ≤ lim → ∀ j, j < k + 1 → -lim ≤ l.getD j 0 ∧ l.getD j 0 ≤ lim) := fun q j hj => by
        by_cases e : j = k
        · subst e; exact q
        · exact HALL.out j (by omega)
      generalize l.getD k 0 = x at *
      by_cases c1 : x < -lim
      · obtain rfl : res = false := HB.out (by omega)
        go_wp2
        go_ret
        exact ⟨rfl, rfl⟩
      · by_cases c2 : lim < x
        · obtain rfl : res = false := HB.out (by omega)
          go_wp2
          go_ret
          exact ⟨rfl, rfl⟩
        · have HX := Lib.hid (HN.out ⟨by omega, by omega⟩)
          go_wp2
          go_round
          case rel => exact ⟨k + 1, by omega, by go_num, HX.out⟩
          case measure => simp [intOf]; omega
    · obtain rfl : k = m := by omega
      obtain rfl : res = true := HEND.out HALL.out
      go_wp2
      go_ret
      exact ⟨rfl, rfl⟩

set_option maxHeartbeats 1000000 in
set_option maxRecDepth 100000 in
theorem woCheck_any (n : Int) (a : Option Addr) (m c : Nat) (V : List Int) (w : World) (B : Nat) (hr : Rd w B a m V) (hm : m ≤ 17592186044416) :
    Calls Try.prog 63 #[.int .i64 n, .slice a m c] w fun e w' => e = .returned (.int .i64 (gchk n V)) ∧ w = w' := by
  have hln : V.length = m := hr.1
  by_cases h1 : n < 1 ∨ 6 < n
  · have e : gchk n V = 1 := by unfold gchk; rw [if_pos h1]
    rw [e]
    clear e hr hln
    rcases h1 with h1 | h1
    · go_enter Try.func63, Try.ntmps63
      go_wp2
      go_ret
      exact ⟨rfl, rfl⟩
    · go_enter Try.func63, Try.ntmps63
      go_wp2
      go_ret
      exact ⟨rfl, rfl⟩
  · obtain ⟨k, rfl⟩ : ∃ k : Nat, n = k := ⟨n.toNat, by omega⟩
    have k1 : 1 ≤ k := by omega
    have k6 : k ≤ 6 := by omega
    have hpw := wo_pw k6
    obtain ⟨N, hN⟩ : ∃ N, 2 ^ k = N := ⟨_, rfl⟩
    have hN64 : N ≤ 64 := by rw [← hN]; exact pow6 k6
    have hN1 : 1 ≤ N := by rw [← hN]; exact pow1 k
    rw [hN] at hpw
    have e : gchk (k : Int) V = if V.length ≠ N then 3 else if ¬ (∀ x ∈ V, -1000000 ≤ x ∧ x ≤ 1000000) then 1 else if V.getD 0 0 ≠ 0 then 3 else 0 := by unfold gchk; rw [if_neg h1, Int.toNat_natCast, hN]
    clear hN h1
    by_cases h2 : m = N
    · subst h2
      have hne : ((m : Int) != (m : Int)) = false := by simp
      rw [if_neg (by simpa using hln)] at e
      have QC := Lib.hid (woIn_any 1000000 (by omega) (by omega) a m c V w B hr hm)
      cases hb : inB 1000000 V with
      | false =>
        rw [hb] at QC
        have e1 : gchk (k : Int) V = 1 := by
          rw [e, if_pos]
          intro hall
          rw [inB_iff.2 hall] at hb
          cases hb
        rw [e1]
        clear e e1 hb hr hln
        go_enter Try.func63, Try.ntmps63
        go_wp2_with fail
        refine QC.out.mono ?_
        rintro e w1 ⟨rfl, rfl⟩
        clear QC
        go_wp2
        go_ret
        exact ⟨rfl, rfl⟩
      | true =>
        rw [hb] at QC
        have hall := inB_iff.1 hb
        rw [if_neg (by simpa using hall)] at e
        obtain ⟨bv, ov, rfl, hbv, hcv⟩ := hr.at_ (k := 0) (by omega)
        rw [Nat.add_zero] at hcv
        have E := Lib.hid e
        clear e hall hb hr hln
        generalize gchk (k : Int) V = res at *
        generalize V.getD 0 0 = y at *
        go_enter Try.func63, Try.ntmps63
        go_wp2_with fail
        refine QC.out.mono ?_
        rintro e w1 ⟨rfl, rfl⟩
        clear QC
        by_cases q : y = 0
        · rw [if_neg (by simpa using q)] at E
          obtain rfl : res = 0 := E.out
          subst q
          go_wp2
          go_ret
          exact ⟨rfl, rfl⟩
        · rw [if_pos q] at E
          obtain rfl : res = 3 := E.out
          have qb : (y != 0) = true := by simpa using q
          go_wp2
          go_ret
          exact ⟨rfl, rfl⟩
    · have e1 : gchk (k : Int) V = 3 := by rw [e, if_pos (by omega)]
      rw [e1]
      have hne : ((m : Int) != (N : Int)) = true := by simp; omega
      clear e e1 hr hln
      go_enter Try.func63, Try.ntmps63
      go_wp2
      go_ret
      exact ⟨rfl, rfl⟩
theorem wCheck : WCheck := fun n a m c V w hL => (woCheck_any n a m c V w _ hL.1 hL.2.1).mono fun _ _ ⟨h1, h2⟩ => ⟨h1, h2 ▸ Below.refl _ w⟩
end Go.Proofs.Ytimjepakdldacaa

/-
  Package power: everybody, has and weight: what they return; nothing is written.
-/
import Derived.Test.YthcaipnlgbnfkaaPowerP
namespace Go.Proofs.Ythcaipnlgbnfkaa
open Go.RowKit Fm
set_option linter.unusedVariables false

theorem pwbit_at : ∀ s : Nat, s < 64 → ∀ x : Nat, x < 6 → (bits BinOp.and IntKind.i64 ((s : Int) / 2 ^ x) 1 == 1) = s.testBit x := by decide +kernel

set_option maxHeartbeats 1000000 in
set_option maxRecDepth 100000 in
theorem pwAll_any (a : Option Addr) (m c : Nat) (w : World) (hm : m ≤ 6) :
    Calls Try.prog 89 #[.slice a m c] w fun e w' => e = .returned (.int .i64 ((2 ^ m - 1 : Nat) : Int)) ∧ w = w' := by
  have : m = 0 ∨ m = 1 ∨ m = 2 ∨ m = 3 ∨ m = 4 ∨ m = 5 ∨ m = 6 := by omega
  rcases this with rfl | rfl | rfl | rfl | rfl | rfl | rfl
  all_goals
    go_enter Try.func89, Try.ntmps89
    go_wp2
    go_ret
    exact ⟨rfl, rfl⟩

set_option maxHeartbeats 1000000 in
set_option maxRecDepth 100000 in
theorem pwHas_any (S i : Nat) (hS : S < 64) (hi : i < 6) (w : World) :
    Calls Try.prog 107 #[.int .i64 S, .int .i64 i] w fun e w' => e = .returned (.bool (S.testBit i)) ∧ w = w' := by
  have HB := Lib.hid (pwbit_at S hS i hi)
  rw [← HB.out]
  go_enter Try.func107, Try.ntmps107
  go_wp2
  go_ret
  exact ⟨rfl, rfl⟩

set_option maxHeartbeats 1000000 in
set_option maxRecDepth 100000 in
theorem pwWeight_any {P : List Int} {m S : Nat} (hb : ∀ x ∈ P, 0 ≤ x ∧ x ≤ 1000) (hm : m ≤ 6) (hS : S < 64) (a : Option Addr) (c : Nat) (w : World) (B : Nat) (hr : Rd w B a m P) :
    Calls Try.prog 90 #[.slice a m c, .int .i64 S] w fun e w' => e = .returned (.int .i64 (hv (wt P) m S)) ∧ w = w' := by
  have HR := Lib.hid hr
  have HWT : Hid (∀ i, i < m → P.getD i 0 = (wt P i : Int) ∧ wt P i ≤ 1000) := fun i hi => wt_at hb (by rw [hr.1]; exact hi)
  have HNX : Hid (∀ k, hv (wt P) (k + 1) S = hv (wt P) k S + if S.testBit k = true then wt P k else 0) := fun k => rfl
  have HQ : Hid (∀ i (w : World), i < m → Calls Try.prog 107 #[.int .i64 S, .int .i64 i] w fun e w' => e = .returned (.bool (S.testBit i)) ∧ w = w') := fun i w hi => pwHas_any S i hS (by omega) w
  obtain ⟨H, hH⟩ : ∃ H : Nat → Nat, ∀ k, hv (wt P) k S = H k := ⟨_, fun _ => rfl⟩
  rw [hH]
  have HN2 : Hid (∀ k, H (k + 1) = H k + if S.testBit k = true then wt P k else 0) := fun k => by rw [← hH, ← hH]; exact HNX.out k
  have HZ : Hid (H 0 = 0) := by show _ = _; rw [← hH]; rfl
  obtain ⟨res, hres⟩ : ∃ res, H m = res := ⟨_, rfl⟩
  rw [hres]
  have HRES := Lib.hid hres
  clear hr hb hH HNX hres
  go_enter Try.func90, Try.ntmps90
  go_wp2_with fail
  go_loop [5, 10] (fun sv iv => ∃ k s : Nat, k ≤ m ∧ iv = .int .i64 k ∧ sv = .int .i64 s ∧ H k = s ∧ s ≤ 1000 * k) (fun _ iv => m - (intOf iv).toNat)
  case atStart => exact ⟨0, 0, Nat.zero_le _, rfl, rfl, HZ.out, by omega⟩
  case round =>
    obtain ⟨k, s, hk, rfl, rfl, hs, h1⟩ := hrel
    have HS := Lib.hid hs
    clear hs
    by_cases hkm : k < m
    · obtain ⟨b, o, rfl, hb, hcell⟩ := HR.out.at_ hkm
      obtain ⟨x1, x2⟩ := HWT.out k hkm
      rw [x1] at hcell
      have HX := Lib.hid (HN2.out k)
      have Q := Lib.hid (HQ.out k w hkm)
      clear x1
      generalize wt P k = x at *
      go_wp2_with fail
      refine Q.out.mono ?_
      rintro e w' ⟨rfl, rfl⟩
      clear Q
      cases hbk : S.testBit k with
      | true =>
        rw [hbk] at HX
        have HY : Hid (H (k + 1) = s + x) := by show _ = _; rw [HX.out, HS.out]; rfl
        clear hbk
        go_wp2
        go_round
        case rel => exact ⟨k + 1, s + x, by omega, by go_num, by go_num, HY.out, by omega⟩
        case measure => simp [intOf]; omega
      | false =>
        rw [hbk] at HX
        have HY : Hid (H (k + 1) = s) := by show _ = _; rw [HX.out, HS.out]; rfl
        clear hbk
        go_wp2
        go_round
        case rel => exact ⟨k + 1, s, by omega, by go_num, rfl, HY.out, by omega⟩
        case measure => simp [intOf]; omega
    · obtain rfl : k = m := by omega
      have HX : Hid (res = s) := by show _ = _; rw [← HRES.out, HS.out]
      go_wp2
      go_ret
      exact ⟨by rw [HX.out]; rfl, rfl⟩
theorem hv_le6 {P : List Int} {m S : Nat} (hb : ∀ x ∈ P, 0 ≤ x ∧ x ≤ 1000) (hl : P.length = m) (hm : m ≤ 6) : hv (wt P) m S ≤ 6000 := by
  have h2 := hv_le (W := wt P) (n := m) S
  have h3 : sN (wt P) m ≤ sN (fun _ => 1000) m := sN_le (fun i hi => (wt_at hb (by rw [hl]; exact hi)).2)
  have e1 : ∀ c m, sN (fun _ => c) m = c * m := fun c m => by
    induction m with
    | zero => rfl
    | succ m ih => rw [sN, ih, Nat.mul_succ]
  rw [e1] at h3
  omega
end Go.Proofs.Ythcaipnlgbnfkaa

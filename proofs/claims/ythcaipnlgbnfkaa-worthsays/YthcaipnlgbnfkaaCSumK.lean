/-
  plumekeep.sum: what it returns; nothing is written.
-/
import Derived.Test.YthcaipnlgbnfkaaOuts
namespace Go.Proofs.Ythcaipnlgbnfkaa
open Go.RowKit Fm
set_option linter.unusedVariables false

set_option maxHeartbeats 1000000 in
set_option maxRecDepth 100000 in
theorem sumK_any (a : Option Addr) (m c : Nat) (l : List Int) (w : World) (B : Nat) (hr : Rd w B a m l) (hm : m ≤ 1000) (hb : ∀ x ∈ l, -2000000000 ≤ x ∧ x ≤ 2000000000) :
    Calls Try.prog 32 #[.slice a m c] w fun e w' => e = .returned (.int .i64 l.sum) ∧ w = w' := by
  have HR := Lib.hid hr
  have HL := Lib.hid hr.1
  have HB := Lib.hid hb
  obtain ⟨res, hres⟩ : ∃ res, l.sum = res := ⟨_, rfl⟩
  have HRES := Lib.hid hres
  rw [hres]
  clear hr hb hres
  go_enter Try.func32, Try.ntmps32
  go_wp2_with fail
  go_loop [3, 8] (fun sv iv => ∃ (k : Nat) (s : Int), k ≤ m ∧ iv = .int .i64 k ∧ sv = .int .i64 s ∧ s = (l.take k).sum ∧ -2000000000 * (k : Int) ≤ s ∧ s ≤ 2000000000 * (k : Int)) (fun _ iv => m - (intOf iv).toNat)
  case atStart => exact ⟨0, 0, Nat.zero_le _, rfl, rfl, rfl, by omega, by omega⟩
  case round =>
    obtain ⟨k, s, hk, rfl, rfl, hs, h1, h2⟩ := hrel
    have HS := Lib.hid hs
    clear hs
    by_cases hkm : k < m
    · obtain ⟨b, o, rfl, hb, hcell⟩ := HR.out.at_ hkm
      have hkl : k < l.length := by rw [HL.out]; omega
      have hx := HB.out _ (getD_mem l k hkl)
      have HN : Hid ((l.take (k + 1)).sum = (l.take k).sum + l.getD k 0) := by show _ = _; rw [take_succ_getD l k hkl, List.sum_append]; simp
      clear hkl
      generalize l.getD k 0 = x at *
      go_wp2
      go_round
      case rel => exact ⟨k + 1, s + x, by omega, by go_num, rfl, by rw [HN.out, HS.out], by omega, by omega⟩
      case measure => simp [intOf]; omega
    · obtain rfl : k = m := by omega
      have HX : Hid (res = s) := by show _ = _; rw [← HRES.out, HS.out, List.take_of_length_le (by rw [HL.out]; exact Nat.le_refl _)]
      go_wp2
      go_ret
      exact ⟨by rw [HX.out]; rfl, rfl⟩
end Go.Proofs.Ythcaipnlgbnfkaa

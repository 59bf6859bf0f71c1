/-
  Package power: factorial at numbers up to six; math/bits.OnesCount at sets of up to six players; nothing is written.
-/
import Derived.Test.YthcaipnlgbnfkaaPowerP
namespace Go.Proofs.Ythcaipnlgbnfkaa
open Go.RowKit Fm
set_option linter.unusedVariables false

set_option maxHeartbeats 1000000 in
set_option maxRecDepth 100000 in
theorem pwFac_any (n : Nat) (hn : n ≤ 6) (w : World) : Calls Try.prog 109 #[.int .i64 n] w fun e w' => e = .returned (.int .i64 (fact n : Nat)) ∧ w = w' := by
  obtain ⟨res, hres⟩ : ∃ res, fact n = res := ⟨_, rfl⟩
  rw [hres]
  have HRES := Lib.hid hres
  have HB : Hid (∀ k, k ≤ 6 → fact k ≤ 720) := by show ∀ k, k ≤ 6 → fact k ≤ 720; decide
  have HS : Hid (∀ k, fact (k + 1) = fact k * (k + 1)) := fun _ => rfl
  clear hres
  by_cases h2 : n < 2
  · have hr : res = 1 := by rw [← HRES.out]; have : n = 0 ∨ n = 1 := by omega
                            rcases this with rfl | rfl <;> rfl
    subst hr
    have d1 : decide ((2 : Int) ≤ (n : Int)) = false := decide_eq_false (by omega)
    have d2 : decide (2 ≤ n) = false := decide_eq_false (by omega)
    go_enter Try.func109, Try.ntmps109
    go_wp2_with fail
    go_loop [3, 4] (fun pv kv => pv = .int .i64 1 ∧ kv = .int .i64 2) (fun _ _ => 0)
    case atStart => exact ⟨rfl, rfl⟩
    case round =>
      obtain ⟨rfl, rfl⟩ := hrel
      go_wp2
      go_ret
      exact ⟨rfl, rfl⟩
  · go_enter Try.func109, Try.ntmps109
    go_wp2_with fail
    go_loop [3, 4] (fun pv kv => ∃ k f : Nat, 1 ≤ k ∧ k ≤ n ∧ kv = .int .i64 ((k + 1 : Nat) : Int) ∧ pv = .int .i64 f ∧ fact k = f) (fun _ kv => n + 1 - (intOf kv).toNat)
    case atStart => exact ⟨1, 1, by omega, by omega, rfl, rfl, rfl⟩
    case round =>
      obtain ⟨k, f, hk1, hk, rfl, rfl, hf⟩ := hrel
      have hfb := HB.out k (by omega)
      rw [hf] at hfb
      have HF := Lib.hid hf
      clear hf
      by_cases hkn : k < n
      · obtain ⟨F, hF⟩ : ∃ F : Nat, f * (k + 1) = F := ⟨_, rfl⟩
        have m1 : (f : Int) * ((k + 1 : Nat) : Int) = (F : Int) := by rw [← hF, Int.natCast_mul]
        have m2 : (f : Int) * ((k : Int) + 1) = (F : Int) := by rw [← m1]; rfl
        have hFb : F ≤ 720 := by have := HB.out (k + 1) (by omega); rw [HS.out, HF.out, hF] at this; exact this
        have HX : Hid (fact (k + 1) = F) := by show _ = _; rw [HS.out, HF.out, hF]
        clear hF
        go_wp2
        go_round
        case rel => exact ⟨k + 1, F, by omega, by omega, by go_num, rfl, HX.out⟩
        case measure => simp [intOf]; omega
      · obtain rfl : k = n := by omega
        have HX : Hid (res = f) := by show _ = _; rw [← HRES.out, HF.out]
        go_wp2
        go_ret
        exact ⟨by rw [HX.out]; rfl, rfl⟩
end Go.Proofs.Ythcaipnlgbnfkaa

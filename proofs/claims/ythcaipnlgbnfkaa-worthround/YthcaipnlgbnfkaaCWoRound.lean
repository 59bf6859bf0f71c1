/-
  Package worth: Round: what it returns; nothing that was there is written.
-/
import Derived.Test.YthcaipnlgbnfkaaCWoBase
import Derived.BigQuiet
import Derived.Deep.QuietTactic
namespace Go.Proofs.Ythcaipnlgbnfkaa
open Go.RowKit Fm
set_option linter.unusedVariables false

theorem woor64 : ∀ a : Nat, a < 64 → ∀ b : Nat, b < 64 → bits BinOp.or IntKind.i64 (a : Int) (b : Int) = ((a ||| b : Nat) : Int) := by decide +kernel
theorem woand64 : ∀ a : Nat, a < 64 → ∀ b : Nat, b < 64 → bits BinOp.and IntKind.i64 (a : Int) (b : Int) = ((a &&& b : Nat) : Int) := by decide +kernel
def cwP (V : List Int) (a b : Nat) : Prop := val V a + val V b ≤ val V (a ||| b) + val V (a &&& b)

set_option maxHeartbeats 2000000 in
set_option maxRecDepth 100000 in
theorem wRound : WRound := by
  intro n a m c V w hL
  have HC := Lib.hid (woCheck_any n a m c V w _ hL.1 hL.2.1)
  obtain ⟨hr, hm, _⟩ := hL
  by_cases h0 : gchk n V = 0
  · rw [h0] at HC
    obtain ⟨k, rfl, g⟩ := gchk_ok h0
    have h6 := g.le
    obtain ⟨N, hN⟩ : ∃ N, 2 ^ k = N := ⟨_, rfl⟩
    have hN64 : N ≤ 64 := by rw [← hN]; exact pow6 h6
    have hN1 : 1 ≤ N := by rw [← hN]; exact pow1 k
    have hmN : m = N := by rw [← hN, ← g.len]; exact hr.1.symm
    subst hmN
    have e3 : roundA k V = convB k V := by
      unfold roundA
      rw [h0, Int.toNat_natCast]
      rfl
    rw [e3, h0]
    have HYES : Hid ((∀ x y, x < m → y < m → cwP V x y) → convB k V = true) := fun h => convB_iff.2 (fun x y hx hy => h x y (by omega) (by omega))
    have HNO : Hid (∀ x y, x < m → y < m → ¬ cwP V x y → convB k V = false) := fun x y hx hy h => by
      cases q : convB k V with
      | false => rfl
      | true => exact absurd (convB_iff.1 q x y (by rw [hN]; exact hx) (by rw [hN]; exact hy)) h
    have HLT : Hid (∀ x y, x < m → y < m → x ||| y < m ∧ x &&& y < m) := fun x y hx hy => by
      rw [← hN] at hx hy ⊢
      exact ⟨Nat.or_lt_two_pow hx hy, Nat.and_lt_two_pow _ hy⟩
    have HVB : Hid (∀ S, -1000000 ≤ val V S ∧ val V S ≤ 1000000) := g.val_bd
    obtain ⟨bv, ov, rfl, hbv, hcv⟩ := hr.2 (by omega)
    have HCV : Hid (∀ j, j < m → w.cell? ⟨bv, ov + j, none⟩ = some (.int .i64 (val V j))) := hcv
    clear hr g hcv hN e3 h0
    generalize convB k V = res at *
    go_enter Try.func17, Try.ntmps17
    go_wp2_with fail
    refine HC.out.mono ?_
    rintro e w1 ⟨rfl, rfl⟩
    clear HC
    go_wp2_with fail
    go_loopw [17] (fun iv wr => ∃ (x d : Nat), x ≤ m ∧ iv = .int .i64 x ∧ Hid (∀ p q, p < x → q < m → cwP V p q) ∧ Hid (wr = w.drewN d)) (fun iv _ => m - (intOf iv).toNat)
    case atStart => exact ⟨0, 0, Nat.zero_le _, rfl, (show Hid _ from fun p q hp => by omega), (show Hid _ from by show _ = _; rfl)⟩
    case round =>
      obtain ⟨x, d, hx, rfl, HX, HWR⟩ := hrel
      by_cases hxN : x < m
      · obtain ⟨wo, rfl⟩ : ∃ wo, wo = wr := ⟨_, rfl⟩
        go_wp2_with fail
        go_loopw [22] (fun iv wr => ∃ (y d : Nat), y ≤ m ∧ iv = .int .i64 y ∧ Hid (∀ q, q < y → cwP V x q) ∧ Hid (wr = w.drewN d)) (fun iv _ => m - (intOf iv).toNat)
        case atStart => exact ⟨0, d, Nat.zero_le _, rfl, (show Hid _ from fun q hq => by omega), HWR⟩
        case round =>
          clear HWR
          obtain ⟨y, d, hy, rfl, HY, HWR⟩ := hrel
          by_cases hyN : y < m
          · obtain ⟨l1, l2⟩ := HLT.out x y hxN hyN
            have o1 := woor64 x (by omega) y (by omega)
            have o2 := woand64 x (by omega) y (by omega)
            have HCP : Hid (cwP V x y ↔ val V x + val V y ≤ val V (x ||| y) + val V (x &&& y)) := Iff.rfl
            have HF := Lib.hid (HNO.out x y hxN hyN)
            generalize x ||| y = s1 at *
            generalize x &&& y = s2 at *
            have r1 : wr.cell? ⟨bv, ov + s1, none⟩ = some (.int .i64 (val V s1)) := by rw [HWR.out]; exact HCV.out _ l1
            have r2 : wr.cell? ⟨bv, ov + s2, none⟩ = some (.int .i64 (val V s2)) := by rw [HWR.out]; exact HCV.out _ l2
            have r3 : wr.cell? ⟨bv, ov + x, none⟩ = some (.int .i64 (val V x)) := by rw [HWR.out]; exact HCV.out _ hxN
            have r4 : wr.cell? ⟨bv, ov + y, none⟩ = some (.int .i64 (val V y)) := by rw [HWR.out]; exact HCV.out _ (by omega)
            have b1 := HVB.out s1
            have b2 := HVB.out s2
            have b3 := HVB.out x
            have b4 := HVB.out y
            have z1 : (s1 : Int) < (m : Int) := by omega
            have z2 : (s2 : Int) < (m : Int) := by omega
            generalize val V s1 = v1 at *
            generalize val V s2 = v2 at *
            by_cases exy : x = y
            · subst exy
              generalize val V x = v3 at *
              by_cases q : v3 + v3 ≤ v1 + v2
              · have hq : decide (v1 + v2 < v3 + v3) = false := decide_eq_false (by omega)
                have HN : Hid (∀ q, q < x + 1 → cwP V x q) := fun p hp => by
                  by_cases e : p = x
                  · subst e; exact HCP.out.2 q
                  · exact HY.out p (by omega)
                go_wp2_with fail
                go_quiet (fail)
                go_wp2
                go_roundw
                case rel => exact ⟨x + 1, d + nq, by omega, by go_num, HN, (show Hid _ from by show _ = _; rw [HWR.out, World.drewN_drewN])⟩
                case measure => simp [intOf]; omega
              · have hq : decide (v1 + v2 < v3 + v3) = true := decide_eq_true (by omega)
                obtain rfl : res = false := HF.out (fun h => q (HCP.out.1 h))
                go_wp2_with fail
                go_quiet (fail)
                go_wp2
                go_ret2
                exact ⟨rfl, by rw [HWR.out, World.drewN_drewN]; exact below_drewN (Below.refl _ w) _⟩
            · generalize val V x = v3 at *
              generalize val V y = v4 at *
              by_cases q : v3 + v4 ≤ v1 + v2
              · have hq : decide (v1 + v2 < v3 + v4) = false := decide_eq_false (by omega)
                have HN : Hid (∀ q, q < y + 1 → cwP V x q) := fun p hp => by
                  by_cases e : p = y
                  · subst e; exact HCP.out.2 q
                  · exact HY.out p (by omega)
                go_wp2_with fail
                go_quiet (fail)
                go_wp2
                go_roundw
                case rel => exact ⟨y + 1, d + nq, by omega, by go_num, HN, (show Hid _ from by show _ = _; rw [HWR.out, World.drewN_drewN])⟩
                case measure => simp [intOf]; omega
              · have hq : decide (v1 + v2 < v3 + v4) = true := decide_eq_true (by omega)
                obtain rfl : res = false := HF.out (fun h => q (HCP.out.1 h))
                go_wp2_with fail
                go_quiet (fail)
                go_wp2
                go_ret2
                exact ⟨rfl, by rw [HWR.out, World.drewN_drewN]; exact below_drewN (Below.refl _ w) _⟩
          · obtain rfl : y = m := by omega
            have HN : Hid (∀ p q, p < x + 1 → q < y → cwP V p q) := fun p q hp hq => by
              by_cases e : p = x
              · subst e; exact HY.out q hq
              · exact HX.out p q (by omega) hq
            go_wp2
            go_roundw
            case rel => exact ⟨x + 1, d, by omega, by go_num, HN, HWR⟩
            case measure => simp [intOf]; omega
      · obtain rfl : x = m := by omega
        obtain rfl : res = true := HYES.out HX.out
        go_wp2
        go_ret2
        exact ⟨rfl, by rw [HWR.out]; exact below_drewN (Below.refl _ w) _⟩
  · have e2 : roundA n V = false := by unfold roundA; rw [decide_eq_false h0]; rfl
    rw [e2]
    have hne : (gchk n V != 0) = true := by simpa using h0
    clear e2 h0 hr
    generalize gchk n V = r at *
    go_enter Try.func17, Try.ntmps17
    go_wp2_with fail
    refine HC.out.mono ?_
    rintro e w1 ⟨rfl, rfl⟩
    clear HC
    go_wp2
    go_ret2
    exact ⟨rfl, Below.refl _ w⟩
end Go.Proofs.Ythcaipnlgbnfkaa

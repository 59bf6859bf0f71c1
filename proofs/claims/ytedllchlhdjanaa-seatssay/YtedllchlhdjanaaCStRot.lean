/-
  slices.rotateCmpFunc on a row of parts: [a, m) and [m, b) in the other order.
-/
import Derived.Test.YtedllchlhdjanaaCStSwap
namespace Go.Proofs.Ytedllchlhdjanaa
open Go.Shelf Go.RowKit Go.Lib Go.Sort Fm
set_option linter.unusedVariables false

set_option maxHeartbeats 4000000 in
set_option maxRecDepth 100000 in
theorem stRot_any {P : Program} {k : Nat} (Y : Ly P k) {enc : Nat → List Value} {w0 : World} {blk n : Nat} (R : Row0 enc k w0 blk n) (hn : n ≤ 100000) (cap : Nat) (F : Value) {d : Nat → Nat} {w : World} (S : SW enc k w0 blk n d w) {a m b : Nat} (ham : a < m) (hmb : m < b) (hb : b ≤ n) :
    Calls P 37 #[.slice (some ⟨blk, 0, none⟩) n cap, .int .i64 a, .int .i64 m, .int .i64 b, F] w fun e w' => e = .returned (.tuple #[]) ∧ SW enc k w0 blk n (rotF d a m b) w' := by
  have mixed := Y.mixed; have tI := Y.tI; have aI := Y.aI; have zI := Y.zI; have tB := Y.tB; have aB := Y.aB; have zB := Y.zB; have tS := Y.tS; have aS := Y.aS; have zS := Y.zS
  have uS := run_underlying Y.tS
  have eS : ∀ args w, (callFunc 38 args).run P w = .ok (.enter 38 args) w := enters_of Y.f38 (by kernel_rfl) rfl
  have S0 : Hid (SW enc k w0 blk n d w) := S
  have QW : Hid (∀ (d : Nat → Nat) (w : World), SW enc k w0 blk n d w → ∀ (a b c : Nat), a + c ≤ b → b + c ≤ n → Calls P 38 #[.slice (some ⟨blk, 0, none⟩) n cap, .int .i64 a, .int .i64 b, .int .i64 c, F] w fun e w' => e = .returned (.tuple #[]) ∧ SW enc k w0 blk n (swF d a b c) w') := fun _ _ S a b c h1 h2 => stSwap_any Y R hn cap F S h1 h2
  clear S R
  go_enter Y.f37, Try.ntmps37
  go_wp2
  go_loopw [10, 11] (fun iv jv wr => ∃ (i j : Nat) (d' : Nat → Nat), 1 ≤ i ∧ 1 ≤ j ∧ i ≤ m ∧ m + j ≤ n ∧ iv = .int .i64 i ∧ jv = .int .i64 j ∧ Hid (SW enc k w0 blk n d' wr) ∧ Hid (rotF d' (m - i) m (m + j) = rotF d a m b)) (fun iv jv _ => (intOf iv).toNat + (intOf jv).toNat)
  case atStart =>
    refine ⟨m - a, b - m, d, by omega, by omega, by omega, by omega, by congr 1; omega, by congr 1; omega, S0, (show Hid _ from ?_)⟩
    show _ = _
    rw [show m - (m - a) = a by omega, show m + (b - m) = b by omega]
  case round =>
    obtain ⟨i, j, d', hi1, hj1, him, hjn, rfl, rfl, S1, HE⟩ := hrel
    clear S0
    by_cases hij : i = j
    · subst hij
      have Q := QW.out _ _ S1.out (m - i) m i (by omega) (by omega)
      rw [show ((m - i : Nat) : Int) = (m : Int) - (i : Int) by omega] at Q
      have HQ := Lib.hid Q
      have HX : Hid (swF d' (m - i) m i = rotF d a m b) := by show _ = _; rw [rot_eq d' him]; exact HE.out
      clear Q S1 HE
      go_wp2_with fail
      refine HQ.out.mono ?_
      rintro e w' ⟨rfl, S2⟩
      rw [HX.out] at S2
      have HS := Lib.hid S2
      clear S2
      go_wp2
      go_end0
      exact ⟨rfl, HS.out⟩
    · have hne : ((i : Int) != (j : Int)) = true := by simp; omega
      by_cases hgt : j < i
      · have Q := QW.out _ _ S1.out (m - i) m j (by omega) (by omega)
        rw [show ((m - i : Nat) : Int) = (m : Int) - (i : Int) by omega] at Q
        have HQ := Lib.hid Q
        have HX : Hid (rotF (swF d' (m - i) m j) (m - (i - j)) m (m + j) = rotF d a m b) := by show _ = _; rw [rot_gt d' hgt him]; exact HE.out
        clear Q S1 HE
        go_wp2_with fail
        refine HQ.out.mono ?_
        rintro e w' ⟨rfl, S2⟩
        have HS := Lib.hid S2
        clear S2
        go_wp2
        go_roundw
        case rel => exact ⟨i - j, j, _, by omega, hj1, by omega, hjn, by congr 1; omega, rfl, HS, HX⟩
        case measure => simp [intOf]; omega
      · have Q := QW.out _ _ S1.out (m - i) (m + j - i) i (by omega) (by omega)
        rw [show ((m - i : Nat) : Int) = (m : Int) - (i : Int) by omega, show ((m + j - i : Nat) : Int) = (m : Int) + (j : Int) - (i : Int) by omega] at Q
        have HQ := Lib.hid Q
        have HX : Hid (rotF (swF d' (m - i) (m + j - i) i) (m - i) m (m + (j - i)) = rotF d a m b) := by show _ = _; rw [rot_lt d' (by omega) him]; exact HE.out
        clear Q S1 HE
        go_wp2_with fail
        refine HQ.out.mono ?_
        rintro e w' ⟨rfl, S2⟩
        have HS := Lib.hid S2
        clear S2
        go_wp2
        go_roundw
        case rel => exact ⟨i, j - i, _, hi1, by omega, him, by omega, rfl, by congr 1; omega, HS, HX⟩
        case measure => simp [intOf]; omega
end Go.Proofs.Ytedllchlhdjanaa

/-
  slices.swapRangeCmpFunc on a row of parts: [a, a+c) and [b, b+c) exchanged.
-/
import Derived.Test.YtedllchlhdjanaaStabRow
namespace Go.Proofs.Ytedllchlhdjanaa
open Go.Shelf Go.RowKit Go.Lib Go.Sort Fm
set_option linter.unusedVariables false

set_option maxHeartbeats 4000000 in
set_option maxRecDepth 100000 in
theorem stSwap_any {P : Program} {k : Nat} (Y : Ly P k) {enc : Nat → List Value} {w0 : World} {blk n : Nat} (R : Row0 enc k w0 blk n) (hn : n ≤ 100000) (cap : Nat) (F : Value) {d : Nat → Nat} {w : World} (S : SW enc k w0 blk n d w) {a b c : Nat} (hab : a + c ≤ b) (hb : b + c ≤ n) :
    Calls P 38 #[.slice (some ⟨blk, 0, none⟩) n cap, .int .i64 a, .int .i64 b, .int .i64 c, F] w fun e w' => e = .returned (.tuple #[]) ∧ SW enc k w0 blk n (swF d a b c) w' := by
  have mixed := Y.mixed; have tI := Y.tI; have aI := Y.aI; have zI := Y.zI; have tB := Y.tB; have aB := Y.aB; have zB := Y.zB; have tS := Y.tS; have aS := Y.aS; have zS := Y.zS; have aE := Y.aE; have zE := Y.zE
  have uS := run_underlying Y.tS
  have S0 : Hid (SW enc k w0 blk n d w) := S
  have HR : Hid (Row0 enc k w0 blk n) := R
  clear S R
  go_enter Y.f38, Try.ntmps38
  go_wp2
  go_loopw [10] (fun iv wr => ∃ i : Nat, i ≤ c ∧ iv = .int .i64 i ∧ Hid (SW enc k w0 blk n (swF d a b i) wr)) (fun iv _ => c - (intOf iv).toNat)
  case atStart => exact ⟨0, Nat.zero_le _, rfl, by rw [swF_zero]; exact S0⟩
  case round =>
    obtain ⟨i, hi, rfl, S1⟩ := hrel
    clear S0
    by_cases hik : i < c
    · have S2 := S1.out.swapped HR.out (show a + i < n by omega) (show b + i < n by omega)
      have l1 := S1.out.ld1 HR.out P (show a + i < n by omega)
      have l2 := S1.out.ld1 HR.out P (show b + i < n by omega)
      have s1 := S1.out.st1 HR.out P (show a + i < n by omega) (swF d a b i (b + i))
      have s2 := S1.out.st2 HR.out P (show a + i < n by omega) (show b + i < n by omega) (swF d a b i (b + i)) (swF d a b i (a + i))
      rw [swF_succ d (by omega)] at S2
      have n1 : (enc (swF d a b i (a + i))).length = k := HR.out.row.hk _
      have n2 : (enc (swF d a b i (b + i))).length = k := HR.out.row.hk _
      generalize enc (swF d a b i (a + i)) = cI at S2 l1 s2 n1
      generalize enc (swF d a b i (b + i)) = cJ at S2 l2 s1 s2 n2
      have ea : ((a : Int) + (i : Int)).toNat = a + i := by omega
      have eb : ((b : Int) + (i : Int)).toNat = b + i := by omega
      have pa : (0 : Int) ≤ (a : Int) + (i : Int) := by omega
      have pb : (0 : Int) ≤ (b : Int) + (i : Int) := by omega
      have qa : (a : Int) + (i : Int) < (n : Int) := by omega
      have qb : (b : Int) + (i : Int) < (n : Int) := by omega
      have ra : IntKind.i64.wrap ((a : Int) + (i : Int)) = (a : Int) + (i : Int) := by rw [IntKind.wrap_i64]; omega
      have rb : IntKind.i64.wrap ((b : Int) + (i : Int)) = (b : Int) + (i : Int) := by rw [IntKind.wrap_i64]; omega
      have HS2 := Lib.hid S2
      clear S1 S2
      go_wp2_with fail
      go_big_region_o
      clear l1 l2 s1 s2
      generalize (wr.drew.setCells blk ((a + i) * k) cJ).setCells blk ((b + i) * k) cI = w2 at HS2 ⊢
      go_wp2
      go_roundw
      case rel => exact ⟨i + 1, by omega, by go_num, HS2⟩
      case measure => simp [intOf]; omega
    · obtain rfl : i = c := by omega
      go_wp2
      go_end0
      exact ⟨rfl, S1.out⟩
end Go.Proofs.Ytedllchlhdjanaa

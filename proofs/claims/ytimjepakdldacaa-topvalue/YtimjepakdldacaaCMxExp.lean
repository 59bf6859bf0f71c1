/-
  The closure of mixed.least: what a column gives; nothing is written.
-/
import Derived.Test.YtimjepakdldacaaCMxCmp
import Derived.Test.YtimjepakdldacaaMixCand
import Derived.BigQuiet
import Derived.Deep.QuietTactic
namespace Go.Proofs.Ytimjepakdldacaa
open Go.RowKit Fm
set_option linter.unusedVariables false

set_option maxHeartbeats 2000000 in
set_option maxRecDepth 100000 in
theorem mexp_any {P Q z0 z1 V : Int} {y k c0 c1 gx gf gs b0 o0 b1 o1 : Nat} (w : World) (h0 : 0 ≤ P) (h1 : P ≤ Q) (hQ : Q ≤ 4000) (n0 : -1000 ≤ z0 ∧ z0 ≤ 1000) (n1 : -1000 ≤ z1 ∧ z1 ≤ 1000) (hy : y < k)
    (x0 : w.cell? ⟨gx, 0, none⟩ = some (.int .i64 P)) (x1 : w.cell? ⟨gx, 1, none⟩ = some (.int .i64 Q)) (xf : w.cell? ⟨gf, 0, none⟩ = some (.slice (some ⟨b0, o0, none⟩) k c0)) (xs : w.cell? ⟨gs, 0, none⟩ = some (.slice (some ⟨b1, o1, none⟩) k c1))
    (y0 : w.cell? ⟨b0, o0 + y, none⟩ = some (.int .i64 z0)) (y1 : w.cell? ⟨b1, o1 + y, none⟩ = some (.int .i64 z1)) (hV : V = z0 * P + z1 * (Q - P)) :
    Calls Try.prog 59 #[.int .i64 y, .pointer (some ⟨gx, 0, none⟩), .pointer (some ⟨gf, 0, none⟩), .pointer (some ⟨gs, 0, none⟩)] w fun e w' => e = .returned (.int .i64 V) ∧ ∃ m, w' = w.drewN m := by
  obtain ⟨a1, a2⟩ := mulBd (x := z0) (y := P) (A := 1000) (B := 4000) n0 ⟨h0, by omega⟩ (by omega)
  obtain ⟨a3, a4⟩ := mulBd (x := z1) (y := Q - P) (A := 1000) (B := 4000) n1 ⟨by omega, by omega⟩ (by omega)
  obtain ⟨A, hA⟩ : ∃ A, z0 * P = A := ⟨_, rfl⟩
  obtain ⟨B, hB⟩ : ∃ B, z1 * (Q - P) = B := ⟨_, rfl⟩
  have hA2 : P * z0 = A := by rw [Int.mul_comm]; exact hA
  have hB2 : (Q - P) * z1 = B := by rw [Int.mul_comm]; exact hB
  rw [hA, hB] at hV
  rw [hA] at a1 a2
  rw [hB] at a3 a4
  have HV := Lib.hid hV
  clear hA hB hV
  obtain ⟨n00, n01⟩ := n0
  obtain ⟨n10, n11⟩ := n1
  go_enter Try.func59, Try.ntmps59
  go_wp2_with fail
  go_quiet (fail)
  go_wp2
  go_ret
  obtain rfl := HV.out
  exact ⟨rfl, ⟨_, rfl⟩⟩
end Go.Proofs.Ytimjepakdldacaa

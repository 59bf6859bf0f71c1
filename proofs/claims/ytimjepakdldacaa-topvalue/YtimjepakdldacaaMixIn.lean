/-
  A table cut at its first two rows; how far the value of a game lies.
-/
import Derived.Test.YtimjepakdldacaaMixP
import Derived.Test.YtimjepakdldacaaM2
namespace Go.Proofs.Ytimjepakdldacaa
open Go.RowKit Fm
set_option linter.unusedVariables false

theorem cut_in {w : World} {a : Option Addr} {L : List (List Int)} (hr : RdR w w.heap.size a L.length L) (h24 : L.length * 24 ≤ 140737488355328) (hall : ∀ l ∈ L, (∀ x ∈ l, Ok64 x) ∧ l.length * 8 ≤ 140737488355328) : RdR w w.heap.size a (min L.length 2) (L.take (min L.length 2)) ∧ TabIn w a (min L.length 2) (L.take (min L.length 2)) := by
  have h := rdr_cut hr (k := min L.length 2) (by omega)
  exact ⟨h, w.heap.size, Nat.le_refl _, h, by omega, fun l hl => by have := (hall l (List.mem_of_mem_take hl)).2; omega⟩
theorem sol_bd {M : List (List Int)} {k : Nat} {P Q V W : Int} (s : Sol M k P Q V W) (p : Pay 2 k M) : -4000000 ≤ V ∧ V ≤ 4000000 := by
  have h1 := sol_lo s p
  have h2 := sol_hi s p
  have h3 := lo_bd p
  have h4 := hi_bd p
  have h5 : -1000 * W ≤ loB M * W := Int.mul_le_mul_of_nonneg_right h3.1 (by have := s.w1; omega)
  have h6 : hiB k M * W ≤ 1000 * W := Int.mul_le_mul_of_nonneg_right h4.2 (by have := s.w1; omega)
  have := s.wb
  omega
end Go.Proofs.Ytimjepakdldacaa

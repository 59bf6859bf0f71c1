/-
  What the contracts of package mixed say, each as a statement of its own; '==' at api.Ratio; two ratios in boxes of their own.
-/
import Derived.Test.YtimjepakdldacaaM2
import Derived.Test.YtimjepakdldacaaMixMath
import Derived.Laws.StructEq
namespace Go.Proofs.Ytimjepakdldacaa
open Go.RowKit Fm
set_option linter.unusedVariables false

/-- What mixed.Solve answers of tables that are not right. -/
def mxchk (M : List (List Int)) : Int := if pchk M ≠ 0 then pchk M else if M.length ≠ 2 then 3 else 0
theorem mxchk_ok {M : List (List Int)} (h : mxchk M = 0) : pchk M = 0 ∧ Pay 2 (M.getD 0 []).length M := by
  unfold mxchk at h
  by_cases h1 : pchk M = 0
  · rw [if_neg (by simpa using h1)] at h
    by_cases h2 : M.length = 2
    · have := pchk_ok h1
      rw [h2] at this
      exact ⟨h1, this⟩
    · rw [if_pos h2] at h; cases h
  · rw [if_pos h1] at h; exact absurd h h1
theorem Pay.mxchk {k : Nat} {M : List (List Int)} (p : Pay 2 k M) : mxchk M = 0 := by
  unfold Proofs.Ytimjepakdldacaa.mxchk
  rw [if_neg (by simpa using p.chk), if_neg (by simpa using p.len)]

def MSolveE : Prop := ∀ (a : Option Addr) (m c : Nat) (M : List (List Int)) (w : World), TabIn w a m M → mxchk M ≠ 0 →
    Calls Try.prog 23 #[.slice a m c] w fun e w' => e = .returned (.tuple #[.agg #[.int .i64 0, .int .i64 0], .agg #[.int .i64 0, .int .i64 0], .int .i64 (mxchk M)]) ∧ Below w.heap.size w w'

def SolOut (k : Nat) (M : List (List Int)) (w : World) (e : Ending) (w' : World) : Prop := ∃ P Q V W, Sol M k P Q V W ∧ e = .returned (.tuple #[.agg #[.int .i64 P, .int .i64 Q], .agg #[.int .i64 V, .int .i64 W], .int .i64 0]) ∧ Below w.heap.size w w'

def MSolve : Prop := ∀ (k : Nat) (a : Option Addr) (m c : Nat) (M : List (List Int)) (w : World), TabIn w a m M → Pay 2 k M →
    Calls Try.prog 23 #[.slice a m c] w (SolOut k M w)

theorem ratioGuard : Try.prog.eqGuardType Try.prog.depth 45 = false := by kernel_rfl
theorem ratioIn (x1 x2 y1 y2 : Int) (w : World) : (Op.equalIn 10000 45 (.agg #[.int .i64 x1, .int .i64 x2]) (.agg #[.int .i64 y1, .int .i64 y2])).run Try.prog w = .ok (x1 == y1 && x2 == y2) w := by
  have u3 := Try.underlying3
  have a3 := Try.isAgg3
  have z3 := Try.sizeOf3
  have hS : Try.prog.underlying 45 = some (.struct (Try.prog.fieldsOf 45)) := by kernel_rfl
  have hp : Try.prog.stoodInHeld 45 = false := by kernel_rfl
  rw [show (10000 : Nat) = 9999 + 1 from rfl, run_equalIn_agg w 9999 45 _ _ hS hp]
  simp only [Program.fieldsOf, Try.underlying45]
  go_simp
  by_cases h1 : x1 = y1 <;> by_cases h2 : x2 = y2 <;> simp [h1, h2]
theorem boxes2 (w : World) (t : TypeId) (x y x' y' : Int) :
    ((w.alloc (.cells #[.int .i64 x, .int .i64 y] t)).alloc (.cells #[.int .i64 x', .int .i64 y'] t)).cell? ⟨w.heap.size, 0, none⟩ = some (.int .i64 x) ∧
    ((w.alloc (.cells #[.int .i64 x, .int .i64 y] t)).alloc (.cells #[.int .i64 x', .int .i64 y'] t)).cell? ⟨w.heap.size, 1, none⟩ = some (.int .i64 y) ∧
    ((w.alloc (.cells #[.int .i64 x, .int .i64 y] t)).alloc (.cells #[.int .i64 x', .int .i64 y'] t)).cell? ⟨w.heap.size + 1, 0, none⟩ = some (.int .i64 x') ∧
    ((w.alloc (.cells #[.int .i64 x, .int .i64 y] t)).alloc (.cells #[.int .i64 x', .int .i64 y'] t)).cell? ⟨w.heap.size + 1, 1, none⟩ = some (.int .i64 y') ∧
    w.heap.size + 1 < ((w.alloc (.cells #[.int .i64 x, .int .i64 y] t)).alloc (.cells #[.int .i64 x', .int .i64 y'] t)).heap.size ∧
    Below w.heap.size w ((w.alloc (.cells #[.int .i64 x, .int .i64 y] t)).alloc (.cells #[.int .i64 x', .int .i64 y'] t)) := by
  have e1 : ∀ k v, (#[Value.int .i64 x, .int .i64 y] : Array Value)[k]? = some v → ((w.alloc (.cells #[.int .i64 x, .int .i64 y] t)).alloc (.cells #[.int .i64 x', .int .i64 y'] t)).cell? ⟨w.heap.size, k, none⟩ = some v := fun k v h => by
    rw [World.cell?_alloc_lt _ _ _ (by simp), World.cell?_alloc_new]; exact h
  have e2 : ∀ k v, (#[Value.int .i64 x', .int .i64 y'] : Array Value)[k]? = some v → ((w.alloc (.cells #[.int .i64 x, .int .i64 y] t)).alloc (.cells #[.int .i64 x', .int .i64 y'] t)).cell? ⟨w.heap.size + 1, k, none⟩ = some v := fun k v h => by
    have : w.heap.size + 1 = (w.alloc (.cells #[.int .i64 x, .int .i64 y] t)).heap.size := by simp
    rw [this, World.cell?_alloc_new]; exact h
  exact ⟨e1 0 _ rfl, e1 1 _ rfl, e2 0 _ rfl, e2 1 _ rfl, by simp, ((Below.refl _ w).alloc (Nat.le_refl _) _).alloc (by simp) _⟩
end Go.Proofs.Ytimjepakdldacaa

/-
  A row of parts (k cells each) that is being sorted in place, as a function from places to the parts' numbers, over any program that bears the library's five functions; nothing else is written.
-/
import Derived.Test.YtedllchlhdjanaaProg
import Derived.Test.YtedllchlhdjanaaStabMath
import Derived.Shelf.SlSortCmp.KitK
import Derived.Deep.LoopGhost
import Derived.Lib.Hide
namespace Go.Proofs.Ytedllchlhdjanaa
open Go.Shelf Go.RowKit Go.Lib Go.Sort Fm
set_option linter.unusedVariables false

/-- What is asked of the program. -/
structure Ly (P : Program) (k : Nat) : Prop where
  mixed : P.follows .mixedOrders = true
  f33 : P.funcs[33]? = some Try.f33
  f35 : P.funcs[35]? = some Try.f35
  f36 : P.funcs[36]? = some Try.f36
  f37 : P.funcs[37]? = some Try.f37
  f38 : P.funcs[38]? = some Try.f38
  tI : P.underlying 3 = some (TypeDesc.int IntKind.i64)
  aI : ∀ w, (isAgg 3).run P w = .ok false w
  zI : ∀ w, (Go.sizeOf 3).run P w = .ok 1 w
  tU : P.underlying 57 = some (TypeDesc.int IntKind.u64)
  aU : ∀ w, (isAgg 57).run P w = .ok false w
  zU : ∀ w, (Go.sizeOf 57).run P w = .ok 1 w
  tB : P.underlying 4 = some TypeDesc.bool
  aB : ∀ w, (isAgg 4).run P w = .ok false w
  zB : ∀ w, (Go.sizeOf 4).run P w = .ok 1 w
  tS : P.underlying 42 = some (TypeDesc.slice 44)
  aS : ∀ w, (isAgg 42).run P w = .ok false w
  zS : ∀ w, (Go.sizeOf 42).run P w = .ok 1 w
  aE : ∀ w, (isAgg 44).run P w = .ok true w
  zE : ∀ w, (Go.sizeOf 44).run P w = .ok k w

def arr (n : Nat) (d : Nat → Nat) : Array Nat := (Array.range n).map d
theorem arr_size (n : Nat) (d : Nat → Nat) : (arr n d).size = n := by simp [arr]
theorem arr_at (n : Nat) (d : Nat → Nat) {i : Nat} (h : i < n) : (arr n d)[i]! = d i := by simp [arr, h]
theorem arr_swp (n : Nat) (d : Nat → Nat) {i j : Nat} (hi : i < n) (hj : j < n) : swp (arr n d) i j = arr n (swp1 d i j) := by
  apply Array.ext
  · rw [size_swp, arr_size, arr_size]
  · intro k h1 h2
    have hk : k < n := by rw [arr_size] at h2; exact h2
    rw [← getElem!_pos (swp (arr n d) i j) k h1, ← getElem!_pos (arr n (swp1 d i j)) k h2, arr_at n _ hk, swp_get _ (by rw [arr_size]; exact hi) (by rw [arr_size]; exact hj), arr_at n _ hi, arr_at n _ hj, arr_at n _ hk]
    unfold swp1
    by_cases q1 : k = j
    · subst q1
      rw [if_pos rfl]
      by_cases q2 : k = i
      · subst q2; rw [if_pos rfl]
      · rw [if_neg q2, if_pos rfl]
    · rw [if_neg q1]
      by_cases q2 : k = i
      · rw [if_pos q2, if_pos q2]
      · rw [if_neg q2, if_neg q2, if_neg q1]

/-- The row before the sort. -/
structure Row0 (enc : Nat → List Value) (k : Nat) (w0 : World) (blk n : Nat) : Prop where
  row : RowK enc k w0 blk 0 (arr n id)
/-- W is the world w0 with the row's parts at the places that d tells, some draws on, some blocks behind. -/
structure SW (enc : Nat → List Value) (k : Nat) (w0 : World) (blk n : Nat) (d : Nat → Nat) (W : World) : Prop where
  sw : SWK enc k w0 blk 0 (arr n d) W
/-- What is asked of the comparison. -/
structure Cmp0 (P : Program) (enc : Nat → List Value) (k : Nat) (w0 : World) (blk n g : Nat) (cf : Nat → Nat → Int) : Prop where
  cmp : CmpLays P g #[] enc k cf blk 0 n w0
  enter : ∀ args w, (callFunc g args).run P w = .ok (.enter g args) w
section
variable {P : Program} {enc : Nat → List Value} {k : Nat} {w0 W : World} {blk n : Nat} {d : Nat → Nat}
theorem SW.grown (h : SW enc k w0 blk n d W) (q : Nat) (os : Array Obj) : SW enc k w0 blk n d (grow (W.drewN q) os) := ⟨h.sw.grown q os⟩
theorem SW.ld (h : SW enc k w0 blk n d W) (R : Row0 enc k w0 blk n) (P : Program) {i : Nat} (hi : i < n) (q : Nat) (os : Array Obj) :
    Sem.run P (loadCellsFrom ⟨blk, i * k, none⟩ 0 k #[]) (grow (W.drewN q) os) = .ok (enc (d i)).toArray (grow (W.drewN q) os) := by
  have := h.sw.ld R.row (by rw [arr_size, arr_size]) P i (by rw [arr_size]; exact hi) q os
  rw [arr_at n _ hi, Nat.zero_add] at this
  exact this
theorem SW.ld1 (h : SW enc k w0 blk n d W) (R : Row0 enc k w0 blk n) (P : Program) {i : Nat} (hi : i < n) :
    Sem.run P (loadCellsFrom ⟨blk, i * k, none⟩ 0 k #[]) W.drew = .ok (enc (d i)).toArray W.drew := by
  have := h.sw.ld1 R.row (by rw [arr_size, arr_size]) P i (by rw [arr_size]; exact hi)
  rw [arr_at n _ hi, Nat.zero_add] at this
  exact this
theorem SW.st1 (h : SW enc k w0 blk n d W) (R : Row0 enc k w0 blk n) (P : Program) {i : Nat} (hi : i < n) (y : Nat) :
    Sem.run P (storeCells ⟨blk, i * k, none⟩ (enc y) 0) W.drew = .ok () (W.drew.setCells blk (i * k) (enc y)) := by
  have := h.sw.st1 R.row (by rw [arr_size, arr_size]) P i (by rw [arr_size]; exact hi) y
  rwa [Nat.zero_add] at this
theorem SW.st2 (h : SW enc k w0 blk n d W) (R : Row0 enc k w0 blk n) (P : Program) {i j : Nat} (hi : i < n) (hj : j < n) (y x : Nat) :
    Sem.run P (storeCells ⟨blk, j * k, none⟩ (enc x) 0) (W.drew.setCells blk (i * k) (enc y)) = .ok () ((W.drew.setCells blk (i * k) (enc y)).setCells blk (j * k) (enc x)) := by
  have := h.sw.st2 R.row (by rw [arr_size, arr_size]) P i j (by rw [arr_size]; exact hi) (by rw [arr_size]; exact hj) y x
  rwa [Nat.zero_add, Nat.zero_add] at this
theorem SW.swapped (h : SW enc k w0 blk n d W) (R : Row0 enc k w0 blk n) {i j : Nat} (hi : i < n) (hj : j < n) :
    SW enc k w0 blk n (swp1 d i j) ((W.drew.setCells blk (i * k) (enc (d j))).setCells blk (j * k) (enc (d i))) := by
  have := h.sw.swapped R.row i j (by rw [arr_size]; exact hi) (by rw [arr_size]; exact hj)
  rw [arr_swp n d hi hj, arr_at n _ hi, arr_at n _ hj, Nat.zero_add, Nat.zero_add] at this
  exact ⟨this⟩
theorem SW.cmp {g : Nat} {cf : Nat → Nat → Int} (h : SW enc k w0 blk n d W) (C : Cmp0 P enc k w0 blk n g cf) (x y : Nat) (q : Nat) (os : Array Obj) :
    Calls P g (#[.agg (enc x).toArray, .agg (enc y).toArray] ++ #[]) (grow (W.drewN q) os) fun e w' => e = .returned (.int .i64 (cf x y)) ∧ ∃ q' os', w' = grow ((grow (W.drewN q) os).drewN q') os' :=
  h.sw.cmp C.cmp (arr_size n d) x y q os
end
end Go.Proofs.Ytedllchlhdjanaa

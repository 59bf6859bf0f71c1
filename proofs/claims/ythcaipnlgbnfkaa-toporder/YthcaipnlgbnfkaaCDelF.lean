/-
  slices.DeleteFunc over a row of ints of the caller's own, whatever the function is that it is handed, if it answers P and writes nothing that was there.
-/
import Derived.Test.YthcaipnlgbnfkaaM12
import Derived.Test.YthcaipnlgbnfkaaM4
import Derived.Lib.SliceRun
namespace Go.Proofs.Ythcaipnlgbnfkaa
open Go.RowKit Fm
set_option linter.unusedVariables false

theorem own_cut {w : World} {base g n cap i : Nat} {e : TypeId} {l : List Int} (h : w.ownsRow base e 1 (.slice (some ⟨g, 0, none⟩) n cap) n (I l)) (hi : i ≤ n) : w.ownsRow base e 1 (.slice (some ⟨g, 0, none⟩) i cap) i (I (l.take i)) := by
  have hl := own_len h
  refine ⟨by rw [I_len, List.length_take]; omega, ?_⟩
  rcases h.2 with ⟨h1, _⟩ | ⟨g', cap', cur, hv, h2, h3, h4, h5, h6, h7⟩
  · cases h1
  · injection hv with hv1 _ hv3
    injection hv1 with hv1
    injection hv1 with hv1
    subst hv1; subst hv3
    refine .inr ⟨g, cap, cur, rfl, h2, h3, by omega, h5, h6, ?_⟩
    have : cur.toList.take (i * 1) = (cur.toList.take (n * 1)).take i := by rw [List.take_take]; congr 1; omega
    rw [this, h7]
    unfold I
    rw [List.map_take]
theorem grown_of_below {w w' : World} (h : Below w.heap.size w w') (row : Option Nat) : w.grownBy w' row := ⟨h.os, h.tape, h.output, h.size, fun k hk _ => h.block k hk⟩
/-- As Tells, in every world in which all blocks but g lie as they were. -/
def TellsG (k : Nat) (env : Array Value) (l : List Int) (P : Int → Bool) (w : World) (g : Nat) : Prop :=
  ∀ x ∈ l, ∀ w1, w.grownBy w1 (some g) → Calls Try.prog k (#[.int .i64 x] ++ env) w1 fun e w' => e = .returned (.bool (P x)) ∧ Below w1.heap.size w1 w'
/-- What stands in the row: the kept ones of the first j, then whatever, then the others as they were. -/
structure Kept (P : Int → Bool) (l : List Int) (i j : Nat) (d : List Int) : Prop where
  len : d.length = l.length
  low : d.take i = (l.take j).filter fun x => !P x
  high : d.drop j = l.drop j
  cnt : i = ((l.take j).filter fun x => !P x).length
  lt : i < j
theorem filter_all {P : Int → Bool} {l : List Int} (h : ∀ x ∈ l, P x = false) : l.filter (fun x => !P x) = l := by
  rw [List.filter_eq_self]; intro x hx; rw [h x hx]; rfl
theorem filt_t {P : Int → Bool} {x : Int} (h : P x = true) : [x].filter (fun x => !P x) = [] := by rw [List.filter_cons, h]; rfl
theorem filt_f {P : Int → Bool} {x : Int} (h : P x = false) : [x].filter (fun x => !P x) = [x] := by rw [List.filter_cons, h]; rfl
theorem Kept.start {P : Int → Bool} {l : List Int} {i : Nat} (hi : i < l.length) (h1 : P (l.getD i 0) = true) (h2 : ∀ t, t < i → P (l.getD t 0) = false) : Kept P l i (i + 1) l := by
  have e : (l.take (i + 1)).filter (fun x => !P x) = l.take i := by
    rw [take_succ_getD l i hi, List.filter_append, filter_all (fun x hx => ?_)]
    · rw [filt_t h1, List.append_nil]
    · obtain ⟨t, ht, rfl⟩ := List.getElem_of_mem hx
      rw [List.length_take] at ht
      have := h2 t (by omega)
      rw [List.getElem_take, ← getD_get (by omega)]
      exact this
  exact ⟨rfl, e.symm, rfl, by rw [e, List.length_take]; omega, by omega⟩
theorem Kept.at_ {P : Int → Bool} {l d : List Int} {i j : Nat} (h : Kept P l i j d) (hj : j < l.length) : d.getD j 0 = l.getD j 0 := by
  have h1 : (d.drop j)[0]? = (l.drop j)[0]? := by rw [h.high]
  rw [List.getElem?_drop, List.getElem?_drop] at h1
  rw [List.getD_eq_getElem?_getD, List.getD_eq_getElem?_getD]
  simpa using congrArg (fun o => o.getD 0) h1
theorem Kept.keep {P : Int → Bool} {l d : List Int} {i j : Nat} (h : Kept P l i j d) (hj : j < l.length) (hp : P (l.getD j 0) = false) : Kept P l (i + 1) (j + 1) (d.set i (l.getD j 0)) := by
  have hi := h.lt
  have hl := h.len
  have e : (l.take (j + 1)).filter (fun x => !P x) = (l.take j).filter (fun x => !P x) ++ [l.getD j 0] := by
    rw [take_succ_getD l j hj, List.filter_append, filt_f hp]
  refine ⟨by simp [hl], ?_, ?_, ?_, by omega⟩
  · rw [e, ← h.low]
    apply List.ext_getElem?
    intro t
    rw [List.getElem?_take, List.getElem?_append, List.length_take, Nat.min_eq_left (by omega), List.getElem?_set, List.getElem?_take]
    by_cases h1 : t < i
    · rw [if_pos (by omega), if_neg (by omega), if_pos h1, if_pos h1]
    · by_cases h2 : t = i
      · subst h2
        rw [if_pos (by omega), if_pos rfl, if_pos (by omega), if_neg h1, Nat.sub_self]; rfl
      · rw [if_neg (by omega), if_neg h1]
        have : t - i = (t - i - 1) + 1 := by omega
        rw [this]; simp
  · rw [List.drop_set_of_lt (by omega)]
    have h1 := congrArg (List.drop 1) h.high
    rw [List.drop_drop, List.drop_drop] at h1
    exact h1
  · rw [e, List.length_append, ← h.cnt]; rfl
theorem Kept.skip {P : Int → Bool} {l d : List Int} {i j : Nat} (h : Kept P l i j d) (hj : j < l.length) (hp : P (l.getD j 0) = true) : Kept P l i (j + 1) d := by
  have e : (l.take (j + 1)).filter (fun x => !P x) = (l.take j).filter (fun x => !P x) := by
    rw [take_succ_getD l j hj, List.filter_append, filt_t hp, List.append_nil]
  refine ⟨h.len, by rw [e]; exact h.low, ?_, by rw [e]; exact h.cnt, by have := h.lt; omega⟩
  have h1 := congrArg (List.drop 1) h.high
  rw [List.drop_drop, List.drop_drop] at h1
  exact h1


end Go.Proofs.Ythcaipnlgbnfkaa

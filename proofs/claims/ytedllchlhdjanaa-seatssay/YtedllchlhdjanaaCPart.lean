/-
  Rows of parts (three ints each) at this program: append, the comparison of plumeref.SharesOf, the stable sort of such a row.
-/
import Derived.Test.YtedllchlhdjanaaOuts
import Derived.Test.YtedllchlhdjanaaPush
import Derived.Test.YtedllchlhdjanaaCStStab
namespace Go.Proofs.Ytedllchlhdjanaa
open Go.Shelf Go.RowKit Go.Lib Go.Sort Fm
set_option linter.unusedVariables false

abbrev P3 := Int × Int × Int
def F1 (p : P3) : List Value := [.int .i64 p.1, .int .i64 p.2.1, .int .i64 p.2.2]
def F3 (l : List P3) : List Value := l.flatMap F1
theorem F3_snoc (l : List P3) (p : P3) : F3 (l ++ [p]) = F3 l ++ F1 p := by unfold F3; simp [List.flatMap_append]
theorem F3_len (l : List P3) : (F3 l).length = l.length * 3 := by
  unfold F3
  induction l with
  | nil => rfl
  | cons p l ih => rw [List.flatMap_cons, List.length_append, ih, List.length_cons]; unfold F1; simp; omega
theorem F3_at : ∀ (l : List P3) (i c : Nat), i < l.length → c < 3 → (F3 l)[i * 3 + c]? = (F1 (l.getD i (0, 0, 1)))[c]? := by
  intro l
  induction l with
  | nil => intro i c h; simp at h
  | cons p l ih =>
    intro i c hi hc
    unfold F3
    rw [List.flatMap_cons]
    cases i with
    | zero =>
      rw [List.getElem?_append_left (by unfold F1; simp; omega)]
      simp
    | succ i =>
      rw [List.getElem?_append_right (by unfold F1; simp; omega)]
      have e : (i + 1) * 3 + c - (F1 p).length = i * 3 + c := by unfold F1; simp; omega
      rw [e]
      have := ih i c (by simpa using hi) hc
      unfold F3 at this
      rw [this]
      simp

theorem info_part : (Try.prog.info? 44).map (fun i => (i.zero, i.size, i.bytes)) = some (some (.agg #[.int .i64 0, .int .i64 0, .int .i64 0]), 3, 24) := by kernel_rfl
/-- append(v, x), v a row of the call's own, x laid in a new block first. -/
theorem push3 {ops : Array Oper} {rest : List Oper} {o : Oper} {a : Act} {Q : Exit → Act → World → Prop} (hgd : o.guard = none) (s x : Operand)
    (ho : o.op = .call { callee := .builtin .append, args := #[s, x], argTypes := #[42, 42] })
    (w : World) (base : Nat) (v : Value) (n : Nat) (l : List P3) (y1 y2 y3 : Int) (hs : a.eval s = v) (hx : a.eval x = .slice (some ⟨w.heap.size, 0, none⟩) 1 1)
    (hown : w.ownsRow base 44 3 v n (F3 l)) (hbase : base ≤ w.heap.size) (hn : n ≤ 1000000)
    (h : ∀ g cap w', w'.ownsRow base 44 3 (.slice (some ⟨g, 0, none⟩) (n + 1) cap) (n + 1) (F3 (l ++ [(y1, y2, y3)])) → w.grownBy w' v.ownBlock → (v.ownBlock = some g ∨ w.heap.size < g) → g < w'.heap.size →
      wpList Try.prog ops Q rest (a.put o.dst (.slice (some ⟨g, 0, none⟩) (n + 1) cap)) w') : wpList Try.prog ops Q (o :: rest) a (w.alloc (.cells #[.int .i64 y1, .int .i64 y2, .int .i64 y3] 44)) := by
  obtain ⟨i0, hi, hz0, hz1, hz2⟩ := info_parts info_part
  refine wpList_append_lies _ hgd s x 42 ho base 44 i0 (.agg #[.int .i64 0, .int .i64 0, .int .i64 0]) 3 24 Try.underlying42 hi hz0 hz1 hz2 rfl (by decide) v n (F3 l) hs (hown.alloc _) ⟨w.heap.size, 0, none⟩ 1 1 (F1 (y1, y2, y3)) hx rfl ?_ ?_ (by decide) ?_ ?_ ?_ (w.heap.size + 1) (by simp) ?_
  · intro j u hj
    unfold F1 at hj
    match j, hj with
    | 0, hj => simp at hj; subst hj; simp [Addr.add, World.cell?_alloc_new]
    | 1, hj => simp at hj; subst hj; simp [Addr.add, World.cell?_alloc_new]
    | 2, hj => simp at hj; subst hj; simp [Addr.add, World.cell?_alloc_new]
  · intro u hu; unfold F1 at hu; simp at hu; rcases hu with rfl | rfl | rfl <;> rfl
  · unfold maxLen; omega
  · omega
  · simp; omega
  · intro g cap w' h1 h2 h3 h4
    refine h g cap w' (by rw [F3_snoc]; exact h1) ?_ ?_ h4
    · refine ⟨h2.os, h2.tape, h2.output, Nat.le_trans (by simp) h2.size, fun k hk hne => ?_⟩
      rw [h2.block k (by simp; omega) hne]
      exact Below.heap_alloc w _ k hk
    · rcases h3 with h3 | h3
      · exact .inl h3
      · right; omega

theorem ly : Ly Try.prog 3 where
  mixed := by kernel_rfl
  f33 := Try.func33
  f35 := Try.func35
  f36 := Try.func36
  f37 := Try.func37
  f38 := Try.func38
  tI := Try.underlying3
  aI := fun _ => rfl
  zI := fun _ => rfl
  tU := Try.underlying57
  aU := fun _ => rfl
  zU := fun _ => rfl
  tB := Try.underlying4
  aB := fun _ => rfl
  zB := fun _ => rfl
  tS := Try.underlying42
  aS := fun _ => rfl
  zS := fun _ => rfl
  aE := fun _ => rfl
  zE := fun _ => rfl

/-- The comparison: whose quotient is greater comes first. -/
def cfP (L : Nat → P3) (x y : Nat) : Int := (L y).2.1 * (L x).2.2 - (L x).2.1 * (L y).2.2

set_option maxHeartbeats 400000 in
set_option maxRecDepth 100000 in
theorem cmpP_any (p q : P3) (w : World) (hp1 : 0 ≤ p.2.1) (hp2 : p.2.1 ≤ 100000000) (hp3 : 0 ≤ p.2.2) (hp4 : p.2.2 ≤ 1000) (hq1 : 0 ≤ q.2.1) (hq2 : q.2.1 ≤ 100000000) (hq3 : 0 ≤ q.2.2) (hq4 : q.2.2 ≤ 1000) :
    Calls Try.prog 26 #[.agg (F1 p).toArray, .agg (F1 q).toArray] w fun e w' => e = .returned (.int .i64 (q.2.1 * p.2.2 - p.2.1 * q.2.2)) ∧ ∃ k os, w' = grow (w.drewN k) os := by
  obtain ⟨p1, p2, p3⟩ := p
  obtain ⟨q1, q2, q3⟩ := q
  show Calls Try.prog 26 #[.agg #[.int .i64 p1, .int .i64 p2, .int .i64 p3], .agg #[.int .i64 q1, .int .i64 q2, .int .i64 q3]] w _
  dsimp only at *
  obtain ⟨X, hX⟩ : ∃ X, q2 * p3 = X := ⟨_, rfl⟩
  obtain ⟨Z, hZ⟩ : ∃ Z, p2 * q3 = Z := ⟨_, rfl⟩
  have bX : 0 ≤ X ∧ X ≤ 100000000000 := by
    rw [← hX]
    refine ⟨Int.mul_nonneg hq1 hp3, ?_⟩
    calc q2 * p3 ≤ 100000000 * p3 := Int.mul_le_mul_of_nonneg_right hq2 hp3
      _ ≤ 100000000000 := by omega
  have bZ : 0 ≤ Z ∧ Z ≤ 100000000000 := by
    rw [← hZ]
    refine ⟨Int.mul_nonneg hp1 hq3, ?_⟩
    calc p2 * q3 ≤ 100000000 * q3 := Int.mul_le_mul_of_nonneg_right hp2 hq3
      _ ≤ 100000000000 := by omega
  obtain ⟨bX1, bX2⟩ := bX
  obtain ⟨bZ1, bZ2⟩ := bZ
  rw [hX, hZ]
  go_enter Try.func26, Try.ntmps26
  go_wp2
  go_ret
  refine ⟨rfl, 0, #[.cells #[.int .i64 p1, .int .i64 p2, .int .i64 p3] 44, .cells #[.int .i64 q1, .int .i64 q2, .int .i64 q3] 44], ?_⟩
  rw [alloc_eq_grow, alloc_eq_grow, grow_grow]
  rfl
end Go.Proofs.Ytedllchlhdjanaa

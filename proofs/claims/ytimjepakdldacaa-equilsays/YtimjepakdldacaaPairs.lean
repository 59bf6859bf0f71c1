/-
  Rows of pairs of ints ([][2]int): what it is that one reads so; a row of the call's own reads so; append of a pair.
-/
import Derived.Test.YtimjepakdldacaaOuts
import Derived.Test.YtimjepakdldacaaPush
import Derived.Deep.AppendLies
import Derived.Deep.DeepMust
namespace Go.Proofs.Ytimjepakdldacaa
open Go.RowKit Fm
set_option linter.unusedVariables false

abbrev P2 := Int × Int
def G1 (p : P2) : List Value := [.int .i64 p.1, .int .i64 p.2]
def G2 (l : List P2) : List Value := l.flatMap G1
theorem G2_snoc (l : List P2) (p : P2) : G2 (l ++ [p]) = G2 l ++ G1 p := by unfold G2; simp [List.flatMap_append]
theorem G2_len (l : List P2) : (G2 l).length = l.length * 2 := by
  unfold G2
  induction l with
  | nil => rfl
  | cons p l ih => rw [List.flatMap_cons, List.length_append, ih, List.length_cons]; unfold G1; simp; omega
theorem G2_at : ∀ (l : List P2) (i c : Nat), i < l.length → c < 2 → (G2 l)[i * 2 + c]? = (G1 (l.getD i (0, 0)))[c]? := by
  intro l
  induction l with
  | nil => intro i c h; simp at h
  | cons p l ih =>
    intro i c hi hc
    unfold G2
    rw [List.flatMap_cons]
    cases i with
    | zero =>
      rw [List.getElem?_append_left (by unfold G1; simp; omega)]
      simp
    | succ i =>
      rw [List.getElem?_append_right (by unfold G1; simp; omega)]
      have e : (i + 1) * 2 + c - (G1 p).length = i * 2 + c := by unfold G1; simp; omega
      rw [e]
      have := ih i c (by simpa using hi) hc
      unfold G2 at this
      rw [this]
      simp

/-- A slice of pairs reads as l, below block B. -/
def Rd2 (w : World) (B : Nat) (a : Option Addr) (n : Nat) (l : List P2) : Prop :=
  l.length = n ∧ (0 < n → ∃ b o, a = some ⟨b, o, none⟩ ∧ b < B ∧ ∀ j, j < n → w.cell? ⟨b, o + j * 2, none⟩ = some (.int .i64 (l.getD j (0, 0)).1) ∧ w.cell? ⟨b, o + j * 2 + 1, none⟩ = some (.int .i64 (l.getD j (0, 0)).2))
section
variable {w w' : World} {B B' n : Nat} {a : Option Addr} {l : List P2}
theorem Rd2.nil_ : Rd2 w B a 0 [] := ⟨rfl, fun h => absurd h (by omega)⟩
theorem Rd2.keep (h : Rd2 w B a n l) (hk : ∀ p : Addr, p.block < B → w'.cell? p = w.cell? p) : Rd2 w' B a n l :=
  ⟨h.1, fun h0 => by
    obtain ⟨b, o, e, hb, hc⟩ := h.2 h0
    exact ⟨b, o, e, hb, fun j hj => ⟨(hk _ hb).trans (hc j hj).1, (hk _ hb).trans (hc j hj).2⟩⟩⟩
theorem Rd2.more (h : Rd2 w B a n l) (hB : B ≤ B') : Rd2 w B' a n l :=
  ⟨h.1, fun h0 => by
    obtain ⟨b, o, e, hb, hc⟩ := h.2 h0
    exact ⟨b, o, e, by omega, hc⟩⟩
theorem Rd2.below (h : Rd2 w B a n l) (hb : Below B' w w') (hB : B ≤ B') : Rd2 w' B a n l := h.keep fun p hp => hb.cell (by omega)
theorem Rd2.alloc (h : Rd2 w B a n l) (hB : B ≤ w.heap.size) (o : Obj) : Rd2 (w.alloc o) B a n l := h.keep fun p hp => World.cell?_alloc_lt w o p (by omega)
theorem rd2_ext (h : Rd2 w w.heap.size a n l) (hb : Below w.heap.size w w') : Rd2 w' w'.heap.size a n l := (h.below hb (Nat.le_refl _)).more hb.size
theorem Rd2.at_ (h : Rd2 w B a n l) {k : Nat} (hk : k < n) : ∃ b o, a = some ⟨b, o, none⟩ ∧ b < B ∧ w.cell? ⟨b, o + k * 2, none⟩ = some (.int .i64 (l.getD k (0, 0)).1) ∧ w.cell? ⟨b, o + k * 2 + 1, none⟩ = some (.int .i64 (l.getD k (0, 0)).2) := by
  obtain ⟨b, o, e, hb, hc⟩ := h.2 (by omega)
  exact ⟨b, o, e, hb, (hc k hk).1, (hc k hk).2⟩
theorem Rd2.of_own {base c : Nat} {e : TypeId} (h : w.ownsRow base e 2 (.slice a n c) n (G2 l)) : Rd2 w w.heap.size a n l := by
  have h0 := h.1
  have hl : l.length = n := by rw [G2_len] at h0; omega
  refine ⟨hl, fun h0 => ?_⟩
  rcases h.2 with ⟨hv, hn⟩ | ⟨g, cap, cur, hv, hb, hg, h2, h3, h4, h5⟩
  · omega
  · injection hv with hv1 hv2 hv3
    subst hv1
    refine ⟨g, 0, rfl, (Array.getElem?_eq_some_iff.1 hg).1, fun j hj => ?_⟩
    have q : ∀ c, c < 2 → w.cell? ⟨g, j * 2 + c, none⟩ = (G1 (l.getD j (0, 0)))[c]? := fun c hc => by
      rw [h.cellAt (j * 2 + c) (by omega), G2_at l j c (by omega) hc]
    rw [Nat.zero_add]
    exact ⟨q 0 (by omega), q 1 (by omega)⟩
end
/-- A row of pairs, and no error. -/
def PairsOut (l : List P2) (w : World) (e : Ending) (w' : World) : Prop := ∃ a c, e = .returned (.tuple #[.slice a l.length c, .int .i64 0]) ∧ l.length ≤ c ∧ c ≤ maxLen ∧ Rd2 w' w'.heap.size a l.length l ∧ Below w.heap.size w w'

theorem info_pair : (Try.prog.info? 34).map (fun i => (i.zero, i.size, i.bytes)) = some (some (.agg #[.int .i64 0, .int .i64 0]), 2, 16) := by kernel_rfl
/-- append(v, x), v a row of the call's own, x laid in a new block first. -/
theorem push2 {ops : Array Oper} {rest : List Oper} {o : Oper} {a : Act} {Q : Exit → Act → World → Prop} (hgd : o.guard = none) (s x : Operand)
    (ho : o.op = .call { callee := .builtin .append, args := #[s, x], argTypes := #[23, 23] })
    (w : World) (base : Nat) (v : Value) (n : Nat) (l : List P2) (y1 y2 : Int) (hs : a.eval s = v) (hx : a.eval x = .slice (some ⟨w.heap.size, 0, none⟩) 1 1)
    (hown : w.ownsRow base 34 2 v n (G2 l)) (hbase : base ≤ w.heap.size) (hn : n ≤ 1000000)
    (h : ∀ g cap w', w'.ownsRow base 34 2 (.slice (some ⟨g, 0, none⟩) (n + 1) cap) (n + 1) (G2 (l ++ [(y1, y2)])) → w.grownBy w' v.ownBlock → (v.ownBlock = some g ∨ w.heap.size < g) → g < w'.heap.size →
      wpList Try.prog ops Q rest (a.put o.dst (.slice (some ⟨g, 0, none⟩) (n + 1) cap)) w') : wpList Try.prog ops Q (o :: rest) a (w.alloc (.cells #[.int .i64 y1, .int .i64 y2] 34)) := by
  obtain ⟨i0, hi, hz0, hz1, hz2⟩ := info_parts info_pair
  refine wpList_append_lies _ hgd s x 23 ho base 34 i0 (.agg #[.int .i64 0, .int .i64 0]) 2 16 Try.underlying23 hi hz0 hz1 hz2 rfl (by decide) v n (G2 l) hs (hown.alloc _) ⟨w.heap.size, 0, none⟩ 1 1 (G1 (y1, y2)) hx rfl ?_ ?_ (by decide) ?_ ?_ ?_ (w.heap.size + 1) (by simp) ?_
  · intro j u hj
    unfold G1 at hj
    match j, hj with
    | 0, hj => simp at hj; subst hj; simp [Addr.add, World.cell?_alloc_new]
    | 1, hj => simp at hj; subst hj; simp [Addr.add, World.cell?_alloc_new]
  · intro u hu; unfold G1 at hu; simp at hu; rcases hu with rfl | rfl <;> rfl
  · unfold maxLen; omega
  · omega
  · simp; omega
  · intro g cap w' h1 h2 h3 h4
    refine h g cap w' (by rw [G2_snoc]; exact h1) ?_ ?_ h4
    · refine ⟨h2.os, h2.tape, h2.output, Nat.le_trans (by simp) h2.size, fun k hk hne => ?_⟩
      rw [h2.block k (by simp; omega) hne]
      exact Below.heap_alloc w _ k hk
    · rcases h3 with h3 | h3
      · exact .inl h3
      · right; omega
theorem own2_slice {w : World} {B n : Nat} {v : Value} {l : List P2} (h : w.ownsRow B 34 2 v n (G2 l)) : ∃ a c, v = .slice a n c ∧ n ≤ c ∧ c ≤ maxLen := by
  rcases h.2 with ⟨rfl, rfl⟩ | ⟨g, cap, cur, rfl, _, _, h1, h2, _⟩
  · exact ⟨none, 0, rfl, Nat.le_refl _, by unfold maxLen; omega⟩
  · exact ⟨_, cap, rfl, h1, h2⟩
theorem own2_nil (w : World) (B : Nat) : w.ownsRow B 34 2 (.slice none 0 0) 0 (G2 []) := ⟨rfl, .inl ⟨rfl, rfl⟩⟩
theorem own2_mono {w : World} {B B' n : Nat} {v : Value} {xs : List Value} (h : w.ownsRow B 34 2 v n xs) (hB : B' ≤ B) : w.ownsRow B' 34 2 v n xs := by
  refine ⟨h.1, ?_⟩
  rcases h.2 with q | ⟨g, cap, cur, rfl, h0, hg, h1, h2, h3, h4⟩
  · exact .inl q
  · exact .inr ⟨g, cap, cur, rfl, by omega, hg, h1, h2, h3, h4⟩
theorem own2_below {w w' : World} {B n : Nat} {v : Value} {xs : List Value} (h : w.ownsRow B 34 2 v n xs) {B' : Nat} (hb : Below B' w w') (hB : w.heap.size ≤ B') : w'.ownsRow B 34 2 v n xs := by
  refine ⟨h.1, ?_⟩
  rcases h.2 with q | ⟨g, cap, cur, rfl, h0, hg, h1, h2, h3, h4⟩
  · exact .inl q
  · have hlt := (Array.getElem?_eq_some_iff.1 hg).1
    exact .inr ⟨g, cap, cur, rfl, h0, by rw [hb.block g (by omega)]; exact hg, h1, h2, h3, h4⟩
end Go.Proofs.Ytimjepakdldacaa

/-
  Words of our own on slices of ints in memory, over any program: a slice that reads as a list of ints, and how that is kept. Nothing here is a statement about the Go text.
-/
import Derived.Below
import Derived.Laws.OwnMore
import Derived.Deep.Draws
import Derived.Deep.OwnRows
import Derived.Lib.Hide
import Derived.Lib.OwnBridge
import Derived.Laws.IdiomCopy
import Derived.Sort.Grow
namespace Fm
open Go Go.RowKit
set_option linter.unusedVariables false

/-- The list of ints as cells. -/
def I (l : List Int) : List Value := l.map (Value.int .i64)
theorem I_len (l : List Int) : (I l).length = l.length := by unfold I; simp

/-- The slice of length n at a reads in w as the ints l; what it reads lies below block B. -/
def Rd (w : World) (B : Nat) (a : Option Addr) (n : Nat) (l : List Int) : Prop :=
  l.length = n ∧ (0 < n → ∃ b o, a = some ⟨b, o, none⟩ ∧ b < B ∧ ∀ j, j < n → w.cell? ⟨b, o + j, none⟩ = some (.int .i64 (l.getD j 0)))

section
variable {w w' : World} {B B' n : Nat} {a : Option Addr} {l : List Int}

theorem Rd.nil_ : Rd w B a 0 [] := ⟨rfl, fun h => absurd h (by omega)⟩
theorem Rd.keep (h : Rd w B a n l) (hk : ∀ p : Addr, p.block < B → w'.cell? p = w.cell? p) : Rd w' B a n l :=
  ⟨h.1, fun hn => by
    obtain ⟨b, o, e, hb, hc⟩ := h.2 hn
    exact ⟨b, o, e, hb, fun j hj => (hk _ hb).trans (hc j hj)⟩⟩
theorem Rd.more (h : Rd w B a n l) (hB : B ≤ B') : Rd w B' a n l :=
  ⟨h.1, fun hn => by
    obtain ⟨b, o, e, hb, hc⟩ := h.2 hn
    exact ⟨b, o, e, by omega, hc⟩⟩
theorem Rd.below (h : Rd w B a n l) (hb : Below B' w w') (hB : B ≤ B') : Rd w' B a n l := h.keep fun p hp => hb.cell (by omega)
theorem Rd.drewN (h : Rd w B a n l) (k : Nat) : Rd (w.drewN k) B a n l := h
theorem Rd.drew (h : Rd w B a n l) : Rd w.drew B a n l := h
theorem Rd.alloc (h : Rd w B a n l) (hB : B ≤ w.heap.size) (o : Obj) : Rd (w.alloc o) B a n l := h.keep fun p hp => World.cell?_alloc_lt w o p (by omega)
theorem Rd.at_ (h : Rd w B a n l) {k : Nat} (hk : k < n) : ∃ b o, a = some ⟨b, o, none⟩ ∧ b < B ∧ w.cell? ⟨b, o + k, none⟩ = some (.int .i64 (l.getD k 0)) := by
  obtain ⟨b, o, e, hb, hc⟩ := h.2 (by omega)
  exact ⟨b, o, e, hb, hc k hk⟩
theorem Rd.grown (h : Rd w B a n l) {row : Option Nat} (hg : w.grownBy w' row) (hB : B ≤ w.heap.size) (hr : ∀ g, row = some g → B ≤ g) : Rd w' B a n l :=
  h.keep fun p hp => World.cell?_of_block (hg.block p.block (by omega) (fun e => by have := hr _ e.symm; omega))

theorem own_form {base : Nat} {e : TypeId} {v : Value} (h : w.ownsRow base e 1 v n (I l)) (hn : 0 < n) :
    ∃ g cap, v = .slice (some ⟨g, 0, none⟩) n cap ∧ base ≤ g ∧ g < w.heap.size ∧ n ≤ cap ∧ cap ≤ maxLen ∧ ∀ j, j < n → w.cell? ⟨g, j, none⟩ = some (.int .i64 (l.getD j 0)) := by
  obtain ⟨hl, h⟩ := h
  rcases h with ⟨_, h0⟩ | ⟨g, cap, cur, rfl, hb, hg, hnc, hm, hsz, ht⟩
  · omega
  · refine ⟨g, cap, rfl, hb, (Array.getElem?_eq_some_iff.1 hg).1, hnc, hm, fun j hj => ?_⟩
    rw [cell_of_row w g j cur e (0, 0) hg]
    have hll : l.length = n := by simpa [I_len] using hl
    have h1 : (cur.toList.take (n * 1))[j]? = (I l)[j]? := by rw [ht]
    rw [List.getElem?_take, if_pos (by omega)] at h1
    rw [← Array.getElem?_toList, h1]; unfold I; rw [List.getElem?_map, List.getElem?_eq_getElem (by omega), List.getD_eq_getElem?_getD, List.getElem?_eq_getElem (by omega)]
    rfl

theorem own_len {base : Nat} {e : TypeId} {v : Value} (h : w.ownsRow base e 1 v n (I l)) : l.length = n := by
  have := h.1; simpa [I_len] using this

theorem Rd.of_own {base c : Nat} {e : TypeId} (h : w.ownsRow base e 1 (.slice a n c) n (I l)) : Rd w w.heap.size a n l := by
  refine ⟨own_len h, fun hn => ?_⟩
  obtain ⟨g, cap, hv, _, hlt, _, _, hc⟩ := own_form h hn
  injection hv with hv
  exact ⟨g, 0, hv, hlt, fun j hj => by rw [Nat.zero_add]; exact hc j hj⟩

/-- Whatever is owned is a slice of that length. -/
theorem own_slice {base : Nat} {e : TypeId} {v : Value} (h : w.ownsRow base e 1 v n (I l)) : ∃ a c, v = .slice a n c ∧ n ≤ c ∧ c ≤ maxLen := by
  rcases h.2 with ⟨rfl, rfl⟩ | ⟨g, cap, cur, rfl, _, _, h1, h2, _⟩
  · exact ⟨none, 0, rfl, Nat.le_refl _, by unfold maxLen; omega⟩
  · exact ⟨_, cap, rfl, h1, h2⟩

theorem own_below {base : Nat} {e : TypeId} {v : Value} {xs : List Value} {size : Nat} (h : w.ownsRow base e size v n xs) (hb : Below B w w') (hB : w.heap.size ≤ B) : w'.ownsRow base e size v n xs := by
  refine ⟨h.1, ?_⟩
  rcases h.2 with hn | ⟨g, cap, cur, rfl, h1, hg, r⟩
  · exact .inl hn
  · exact .inr ⟨g, cap, cur, rfl, h1, (hb.block g (by have := (Array.getElem?_eq_some_iff.1 hg).1; omega)).trans hg, r⟩

theorem own_mono {base base' : Nat} {e : TypeId} {v : Value} {xs : List Value} {size : Nat} (h : w.ownsRow base e size v n xs) (hb : base' ≤ base) : w.ownsRow base' e size v n xs := by
  refine ⟨h.1, ?_⟩
  rcases h.2 with hn | ⟨g, cap, cur, rfl, h1, r⟩
  · exact .inl hn
  · exact .inr ⟨g, cap, cur, rfl, by omega, r⟩

theorem below_drewN {a w : World} (h : Below B a w) (k : Nat) : Below B a (w.drewN k) := ⟨h.os, h.tape, h.output, h.size, h.block⟩

/-- A new block that is just these ints, as a slice. -/
theorem own_lit (w : World) (t : TypeId) (l : List Int) (cs : Array Value) (hcs : cs = (I l).toArray) (hm : l.length ≤ maxLen) :
    (w.alloc (.cells cs t)).ownsRow w.heap.size t 1 (.slice (some ⟨w.heap.size, 0, none⟩) l.length l.length) l.length (I l) := by
  subst hcs
  refine ⟨by simp [I_len], .inr ⟨w.heap.size, l.length, _, rfl, Nat.le_refl _, heap_alloc_new w _, Nat.le_refl _, hm, by simp [I_len], ?_⟩⟩
  rw [List.take_of_length_le (by simp [I_len])]
theorem Rd.lit (w : World) (t : TypeId) (l : List Int) (cs : Array Value) (hcs : cs = (I l).toArray) :
    Rd (w.alloc (.cells cs t)) (w.heap.size + 1) (some ⟨w.heap.size, 0, none⟩) l.length l := by
  subst hcs
  refine ⟨rfl, fun _ => ⟨w.heap.size, 0, rfl, by omega, fun j hj => ?_⟩⟩
  rw [Nat.zero_add, World.cell?_alloc_new]
  simp [hj, I]

theorem Rd.of_cells {x : Addr} {zs : List Int} {len : Nat} (hl : len ≤ zs.length) (hc : ∀ i, i < zs.length → w.cell? (x.add i) = some (.int .i64 (zs.getD i 0))) : Rd w w.heap.size (some x) len (zs.take len) := by
  refine ⟨by rw [List.length_take]; omega, fun hn => ?_⟩
  have h0 := hc 0 (by omega)
  have e0 : x.add 0 = x := by simp [Addr.add]
  rw [e0] at h0
  have hlt := World.block_lt_of_cell? w x h0
  obtain ⟨b, o, sp⟩ := x
  have hsp : sp = none := by
    cases sp with
    | none => rfl
    | some s =>
      exfalso
      simp only [World.cell?] at h0
      split at h0 <;> simp at h0
  subst hsp
  refine ⟨b, o, rfl, hlt, fun j hj => ?_⟩
  have h1 := hc j (by omega)
  have e1 : (⟨b, o, none⟩ : Addr).add j = ⟨b, o + j, none⟩ := by unfold Addr.add; split <;> simp_all
  rw [e1] at h1
  rw [h1]
  simp [List.getD_eq_getElem?_getD, hj]
end
theorem Rd.cutR {w : World} {B b o n : Nat} {S : List Int} (h : Rd w B (some ⟨b, o, none⟩) n S) (k : Nat) (hk : k ≤ n) : Rd w B (some ⟨b, o, none⟩) k (S.take k) := by
  refine ⟨by rw [List.length_take, h.1]; omega, fun hk0 => ?_⟩
  obtain ⟨b', o', e, hb, hc⟩ := h.2 (by omega)
  injection e with e; injection e with e1 e2; subst e1; subst e2
  exact ⟨b, o, rfl, hb, fun j hj => by rw [hc j (by omega)]; simp [List.getD_eq_getElem?_getD, hj]⟩
theorem Rd.cutL {w : World} {B b o n : Nat} {S : List Int} (h : Rd w B (some ⟨b, o, none⟩) n S) (k : Nat) (hk : k ≤ n) : Rd w B (some ⟨b, o + k, none⟩) (n - k) (S.drop k) := by
  refine ⟨by rw [List.length_drop, h.1], fun hk0 => ?_⟩
  obtain ⟨b', o', e, hb, hc⟩ := h.2 (by omega)
  injection e with e; injection e with e1 e2; subst e1; subst e2
  exact ⟨b, o + k, rfl, hb, fun j hj => by rw [Nat.add_assoc, hc (k + j) (by omega)]; simp [List.getD_eq_getElem?_getD, List.getElem?_drop]⟩


theorem grown_refl (w : World) (row : Option Nat) : w.grownBy w row := ⟨rfl, rfl, rfl, Nat.le_refl _, fun _ _ _ => rfl⟩
theorem grown_trans {a b c : World} {row : Option Nat} (h : a.grownBy b row) (k : b.grownBy c row) : a.grownBy c row :=
  ⟨k.os.trans h.os, k.tape.trans h.tape, k.output.trans h.output, Nat.le_trans h.size k.size, fun i hi hne => (k.block i (Nat.lt_of_lt_of_le hi h.size) hne).trans (h.block i hi hne)⟩

def setMany : List Value → Nat → List Value → List Value
  | xs, _, [] => xs
  | xs, o, v :: vs => setMany (xs.set o v) (o + 1) vs
theorem own_setCells {base g n cap : Nat} {e : TypeId} : ∀ (vs : List Value) (o : Nat) (w : World) (xs : List Value), w.ownsRow base e 1 (.slice (some ⟨g, 0, none⟩) n cap) n xs →
    (w.setCells g o vs).ownsRow base e 1 (.slice (some ⟨g, 0, none⟩) n cap) n (setMany xs o vs) ∧ w.grownBy (w.setCells g o vs) (some g) := by
  intro vs
  induction vs with
  | nil => intro o w xs h; exact ⟨h, grown_refl w _⟩
  | cons v vs ih =>
    intro o w xs h
    obtain ⟨h1, h2⟩ := h.stored o v
    obtain ⟨h3, h4⟩ := ih (o + 1) _ _ h1
    exact ⟨h3, grown_trans h2 h4⟩
theorem setMany_I (ys : List Int) : ∀ (o : Nat) (l : List Int), o + ys.length = l.length → setMany (I l) o (ys.map (Value.int .i64)) = I (l.take o ++ ys) := by
  induction ys with
  | nil =>
    intro o l h
    simp only [List.map_nil, setMany, List.append_nil]
    rw [List.take_of_length_le (by simp at h; omega)]
  | cons y ys ih =>
    intro o l h
    simp only [List.map_cons, setMany]
    have e1 : (I l).set o (.int .i64 y) = I (l.set o y) := by unfold I; rw [List.map_set]
    rw [e1, ih (o + 1) (l.set o y) (by simp at h ⊢; omega)]
    have e2 : (l.set o y).take (o + 1) = l.take o ++ [y] := by
      apply List.ext_getElem?
      intro j
      have hol : o < l.length := by simp at h; omega
      rw [List.getElem?_take, List.getElem?_set, List.getElem?_append, List.length_take, Nat.min_eq_left (by omega), List.getElem?_take]
      by_cases h1 : j < o
      · rw [if_pos (by omega), if_neg (by omega), if_pos h1, if_pos h1]
      · by_cases h2 : j = o
        · subst h2
          rw [if_pos (by omega), if_pos rfl, if_pos hol, if_neg h1, Nat.sub_self]; rfl
        · rw [if_neg (by omega), if_neg h1]
          have : j - o = (j - o - 1) + 1 := by omega
          rw [this]; simp
    rw [e2]
    simp

theorem own_cell {w : World} {base g n cap : Nat} {e : TypeId} {l : List Int} (hown : w.ownsRow base e 1 (.slice (some ⟨g, 0, none⟩) n cap) n (I l)) : ∀ j, j < n → w.cell? ⟨g, j, none⟩ = some (.int .i64 (l.getD j 0)) := by
  intro j hj
  obtain ⟨g', cap', hv, _, _, _, _, hc⟩ := own_form hown (by omega)
  injection hv with hv1
  injection hv1 with hv1
  injection hv1 with hv1
  subst hv1
  exact hc j hj

theorem putRow_grown {α : Type} [Inhabited α] (enc : α → Value) (w : World) (q g off : Nat) (d : Array α) : w.grownBy (Sort.putRow enc (Sort.ahead w q) g off d) (some g) := by
  refine ⟨rfl, rfl, rfl, by simp [Sort.putRow, Sort.mapBlock, Sort.ahead], fun k hk hne => ?_⟩
  have hkg : g ≠ k := fun e => hne (by rw [e])
  simp [Sort.putRow, Sort.mapBlock, Sort.ahead, Array.getElem?_modify, hkg]

theorem below_grow (w : World) (os : Array Obj) : Below w.heap.size w (Sort.grow w os) :=
  ⟨rfl, rfl, rfl, by simp [Sort.grow], fun k hk => by show (w.heap ++ os)[k]? = _; exact Array.getElem?_append_left hk⟩

theorem own_nil {w : World} {base n c : Nat} {a : Option Addr} {e : TypeId} {xs : List Value} (h : w.ownsRow base e 1 (.slice a n c) n xs) : a = none → c = 0 := by
  intro ha
  subst ha
  rcases h.2 with ⟨h, _⟩ | ⟨g, cap, cur, h, _⟩
  · injection h
  · injection h with h; cases h

theorem own_not {w : World} {B : Nat} {v : Value} {n : Nat} {xs : List Value} {e : TypeId} (h : w.ownsRow B e 1 v n xs) : ∀ k, v.ownBlock = some k → B ≤ k := fun k hk => (h.lt k hk).1

theorem zeros_at (w : World) (t : TypeId) (n : Nat) (cs : Array Value) (hcs : cs = (List.replicate n (Value.int .i64 0)).toArray) : ∀ j, j < n → (w.alloc (.cells cs t)).cell? ⟨w.heap.size, 0 + j, none⟩ = some (.int .i64 0) := by
  intro j hj
  subst hcs
  rw [Nat.zero_add, World.cell?_alloc_new]
  simp [hj]

theorem ret_true {b : Bool} (h : b = true) : Ending.returned (.bool b) = .returned (.bool true) := by rw [h]
end Fm

/-
  Words of our own on slices of ints in memory, over any program: a slice that reads as a list of ints, and how that is kept. Nothing here is a statement about the Go text.
-/
import Derived.Below
import Derived.Laws.OwnMore
import Derived.Deep.Draws
import Derived.Deep.OwnRows
import Derived.Lib.Hide
namespace Fm
open Go Go.RowKit

/-- The list of ints as cells. -/
def I (l : List Int) : List Value := l.map (Value.int .i64)
theorem I_len (l : List Int) : (I l).length = l.length := by unfold I; simp

/-- The slice of length n at a reads in w as the ints l; what it reads lies below block B. -/
def Rd (w : World) (B : Nat) (a : Option Addr) (n : Nat) (l : List Int) : Prop :=
  l.length = n ∧ (0 < n → ∃ b o, a = some ⟨b, o, none⟩ ∧ b < B ∧ ∀ j, j < n → w.cell? ⟨b, o + j, none⟩ = some (.int .i64 (l.getD j 0)))

section
variable {w w' : World} {B B' n : Nat} {a : Option Addr} {l : List Int}

theorem Rd.nil_ : Rd w B a 0 [] := ⟨rfl, fun h => absurd h (by omega)⟩
theorem Rd.keep (h : Rd w B a n l) (hk : ∀ p : Addr, p.block < B → w'.cell? p = w.cell? p) : Rd w' B a n l :=
  ⟨h.1, fun hn => by
    obtain ⟨b, o, e, hb, hc⟩ := h.2 hn
    exact ⟨b, o, e, hb, fun j hj => (hk _ hb).trans (hc j hj)⟩⟩
theorem Rd.more (h : Rd w B a n l) (hB : B ≤ B') : Rd w B' a n l :=
  ⟨h.1, fun hn => by
    obtain ⟨b, o, e, hb, hc⟩ := h.2 hn
    exact ⟨b, o, e, by omega, hc⟩⟩
theorem Rd.below (h : Rd w B a n l) (hb : Below B' w w') (hB : B ≤ B') : Rd w' B a n l := h.keep fun p hp => hb.cell (by omega)
theorem Rd.drewN (h : Rd w B a n l) (k : Nat) : Rd (w.drewN k) B a n l := h
theorem Rd.drew (h : Rd w B a n l) : Rd w.drew B a n l := h
theorem Rd.alloc (h : Rd w B a n l) (hB : B ≤ w.heap.size) (o : Obj) : Rd (w.alloc o) B a n l := h.keep fun p hp => World.cell?_alloc_lt w o p (by omega)
theorem Rd.at_ (h : Rd w B a n l) {k : Nat} (hk : k < n) : ∃ b o, a = some ⟨b, o, none⟩ ∧ b < B ∧ w.cell? ⟨b, o + k, none⟩ = some (.int .i64 (l.getD k 0)) := by
  obtain ⟨b, o, e, hb, hc⟩ := h.2 (by omega)
  exact ⟨b, o, e, hb, hc k hk⟩
theorem Rd.grown (h : Rd w B a n l) {row : Option Nat} (hg : w.grownBy w' row) (hB : B ≤ w.heap.size) (hr : ∀ g, row = some g → B ≤ g) : Rd w' B a n l :=
  h.keep fun p hp => World.cell?_of_block (hg.block p.block (by omega) (fun e => by have := hr _ e.symm; omega))

theorem own_form {base : Nat} {e : TypeId} {v : Value} (h : w.ownsRow base e 1 v n (I l)) (hn : 0 < n) :
    ∃ g cap, v = .slice (some ⟨g, 0, none⟩) n cap ∧ base ≤ g ∧ g < w.heap.size ∧ n ≤ cap ∧ cap ≤ maxLen ∧ ∀ j, j < n → w.cell? ⟨g, j, none⟩ = some (.int .i64 (l.getD j 0)) := by
  obtain ⟨hl, h⟩ := h
  rcases h with ⟨_, h0⟩ | ⟨g, cap, cur, rfl, hb, hg, hnc, hm, hsz, ht⟩
  · omega
  · refine ⟨g, cap, rfl, hb, (Array.getElem?_eq_some_iff.1 hg).1, hnc, hm, fun j hj => ?_⟩
    rw [cell_of_row w g j cur e (0, 0) hg]
    have hll : l.length = n := by simpa [I_len] using hl
    have h1 : (cur.toList.take (n * 1))[j]? = (I l)[j]? := by rw [ht]
    rw [List.getElem?_take, if_pos (by omega)] at h1
    rw [← Array.getElem?_toList, h1]; unfold I; rw [List.getElem?_map, List.getElem?_eq_getElem (by omega), List.getD_eq_getElem?_getD, List.getElem?_eq_getElem (by omega)]
    rfl

theorem own_len {base : Nat} {e : TypeId} {v : Value} (h : w.ownsRow base e 1 v n (I l)) : l.length = n := by
  have := h.1; simpa [I_len] using this

theorem Rd.of_own {base c : Nat} {e : TypeId} (h : w.ownsRow base e 1 (.slice a n c) n (I l)) : Rd w w.heap.size a n l := by
  refine ⟨own_len h, fun hn => ?_⟩
  obtain ⟨g, cap, hv, _, hlt, _, _, hc⟩ := own_form h hn
  injection hv with hv
  exact ⟨g, 0, hv, hlt, fun j hj => by rw [Nat.zero_add]; exact hc j hj⟩

/-- Whatever is owned is a slice of that length. -/
theorem own_slice {base : Nat} {e : TypeId} {v : Value} (h : w.ownsRow base e 1 v n (I l)) : ∃ a c, v = .slice a n c ∧ n ≤ c ∧ c ≤ maxLen := by
  rcases h.2 with ⟨rfl, rfl⟩ | ⟨g, cap, cur, rfl, _, _, h1, h2, _⟩
  · exact ⟨none, 0, rfl, Nat.le_refl _, by unfold maxLen; omega⟩
  · exact ⟨_, cap, rfl, h1, h2⟩

theorem own_below {base : Nat} {e : TypeId} {v : Value} {xs : List Value} {size : Nat} (h : w.ownsRow base e size v n xs) (hb : Below B w w') (hB : w.heap.size ≤ B) : w'.ownsRow base e size v n xs := by
  refine ⟨h.1, ?_⟩
  rcases h.2 with hn | ⟨g, cap, cur, rfl, h1, hg, r⟩
  · exact .inl hn
  · exact .inr ⟨g, cap, cur, rfl, h1, (hb.block g (by have := (Array.getElem?_eq_some_iff.1 hg).1; omega)).trans hg, r⟩

theorem own_mono {base base' : Nat} {e : TypeId} {v : Value} {xs : List Value} {size : Nat} (h : w.ownsRow base e size v n xs) (hb : base' ≤ base) : w.ownsRow base' e size v n xs := by
  refine ⟨h.1, ?_⟩
  rcases h.2 with hn | ⟨g, cap, cur, rfl, h1, r⟩
  · exact .inl hn
  · exact .inr ⟨g, cap, cur, rfl, by omega, r⟩

theorem below_drewN {a w : World} (h : Below B a w) (k : Nat) : Below B a (w.drewN k) := ⟨h.os, h.tape, h.output, h.size, h.block⟩

/-- A new block that is just these ints, as a slice. -/
theorem own_lit (w : World) (t : TypeId) (l : List Int) (cs : Array Value) (hcs : cs = (I l).toArray) (hm : l.length ≤ maxLen) :
    (w.alloc (.cells cs t)).ownsRow w.heap.size t 1 (.slice (some ⟨w.heap.size, 0, none⟩) l.length l.length) l.length (I l) := by
  subst hcs
  refine ⟨by simp [I_len], .inr ⟨w.heap.size, l.length, _, rfl, Nat.le_refl _, heap_alloc_new w _, Nat.le_refl _, hm, by simp [I_len], ?_⟩⟩
  rw [List.take_of_length_le (by simp [I_len])]
theorem Rd.lit (w : World) (t : TypeId) (l : List Int) (cs : Array Value) (hcs : cs = (I l).toArray) :
    Rd (w.alloc (.cells cs t)) (w.heap.size + 1) (some ⟨w.heap.size, 0, none⟩) l.length l := by
  subst hcs
  refine ⟨rfl, fun _ => ⟨w.heap.size, 0, rfl, by omega, fun j hj => ?_⟩⟩
  rw [Nat.zero_add, World.cell?_alloc_new]
  simp [hj, I]

theorem Rd.of_cells {x : Addr} {zs : List Int} {len : Nat} (hl : len ≤ zs.length) (hc : ∀ i, i < zs.length → w.cell? (x.add i) = some (.int .i64 (zs.getD i 0))) : Rd w w.heap.size (some x) len (zs.take len) := by
  refine ⟨by rw [List.length_take]; omega, fun hn => ?_⟩
  have h0 := hc 0 (by omega)
  have e0 : x.add 0 = x := by simp [Addr.add]
  rw [e0] at h0
  have hlt := World.block_lt_of_cell? w x h0
  obtain ⟨b, o, sp⟩ := x
  have hsp : sp = none := by
    cases sp with
    | none => rfl
    | some s =>
      exfalso
      simp only [World.cell?] at h0
      split at h0 <;> simp at h0
  subst hsp
  refine ⟨b, o, rfl, hlt, fun j hj => ?_⟩
  have h1 := hc j (by omega)
  have e1 : (⟨b, o, none⟩ : Addr).add j = ⟨b, o + j, none⟩ := by unfold Addr.add; split <;> simp_all
  rw [e1] at h1
  rw [h1]
  simp [List.getD_eq_getElem?_getD, hj]
end
theorem Rd.cutR {w : World} {B b o n : Nat} {S : List Int} (h : Rd w B (some ⟨b, o, none⟩) n S) (k : Nat) (hk : k ≤ n) : Rd w B (some ⟨b, o, none⟩) k (S.take k) := by
  refine ⟨by rw [List.length_take, h.1]; omega, fun hk0 => ?_⟩
  obtain ⟨b', o', e, hb, hc⟩ := h.2 (by omega)
  injection e with e; injection e with e1 e2; subst e1; subst e2
  exact ⟨b, o, rfl, hb, fun j hj => by rw [hc j (by omega)]; simp [List.getD_eq_getElem?_getD, hj]⟩
theorem Rd.cutL {w : World} {B b o n : Nat} {S : List Int} (h : Rd w B (some ⟨b, o, none⟩) n S) (k : Nat) (hk : k ≤ n) : Rd w B (some ⟨b, o + k, none⟩) (n - k) (S.drop k) := by
  refine ⟨by rw [List.length_drop, h.1], fun hk0 => ?_⟩
  obtain ⟨b', o', e, hb, hc⟩ := h.2 (by omega)
  injection e with e; injection e with e1 e2; subst e1; subst e2
  exact ⟨b, o + k, rfl, hb, fun j hj => by rw [Nat.add_assoc, hc (k + j) (by omega)]; simp [List.getD_eq_getElem?_getD, List.getElem?_drop]⟩

end Fm

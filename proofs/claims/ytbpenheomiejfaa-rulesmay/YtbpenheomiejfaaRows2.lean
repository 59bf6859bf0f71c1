/-
  Words of our own on slices of slices of ints that a call has made, over any program.
-/
import Derived.Test.YtbpenheomiejfaaBase
import Derived.Laws.MakeOwn
import Derived.Deep.AppendLies
namespace Fm
open Go Go.RowKit
set_option linter.unusedVariables false

/-- Each of vs is a row of its own, from block base on, and together they read as L. -/
def Elems (w : World) (base : Nat) (e : TypeId) (vs : List Value) (L : List (List Int)) : Prop :=
  vs.length = L.length ∧ ∀ j v, vs[j]? = some v → w.ownsRow base e 1 v (L.getD j []).length (I (L.getD j []))

section
variable {w w' : World} {base : Nat} {e : TypeId} {vs : List Value} {L : List (List Int)}
theorem Elems.nil_ : Elems w base e [] [] := ⟨rfl, fun j v h => by simp at h⟩
theorem Elems.below (h : Elems w base e vs L) {B : Nat} (hb : Below B w w') (hB : w.heap.size ≤ B) : Elems w' base e vs L :=
  ⟨h.1, fun j v hv => own_below (h.2 j v hv) hb hB⟩
theorem Elems.mono (h : Elems w base e vs L) {base' : Nat} (hb : base' ≤ base) : Elems w base' e vs L :=
  ⟨h.1, fun j v hv => own_mono (h.2 j v hv) hb⟩
theorem own_kind {n : Nat} {v : Value} {xs : List Value} (h : w.ownsRow base e 1 v n xs) {g : Nat} (hg : v.ownBlock = some g) : ∃ c, w.heap[g]? = some (.cells c e (0, 0)) := by
  rcases h.2 with ⟨rfl, _⟩ | ⟨g', cap, cur, rfl, _, hh, _⟩
  · simp [Value.ownBlock] at hg
  · simp [Value.ownBlock] at hg; subst hg; exact ⟨cur, hh⟩
theorem Elems.kept (h : Elems w base e vs L) {row : Option Nat} (hg : w.grownBy w' row) (hr : ∀ g, row = some g → g < base ∨ ∃ c t, w.heap[g]? = some (.cells c t (0, 0)) ∧ t ≠ e) : Elems w' base e vs L := by
  refine ⟨h.1, fun j v hv => (h.2 j v hv).kept hg ?_⟩
  cases hb : v.ownBlock with
  | none => exact .inl rfl
  | some k =>
    right
    intro he
    rcases hr k he.symm with h1 | ⟨c, t, h1, h2⟩
    · have := ((h.2 j v hv).lt k hb).1; omega
    · obtain ⟨c', h3⟩ := own_kind (h.2 j v hv) hb
      rw [h3] at h1
      injection h1 with h1
      injection h1 with _ h1
      exact h2 h1.symm
theorem own_drewN {n size : Nat} {v : Value} {xs : List Value} (h : w.ownsRow base e size v n xs) (k : Nat) : (w.drewN k).ownsRow base e size v n xs := h
theorem Elems.drewN (h : Elems w base e vs L) (k : Nat) : Elems (w.drewN k) base e vs L := h
theorem Elems.snoc (h : Elems w base e vs L) {v : Value} {l : List Int} (hv : w.ownsRow base e 1 v l.length (I l)) : Elems w base e (vs ++ [v]) (L ++ [l]) := by
  refine ⟨by simp [h.1], fun j u hu => ?_⟩
  by_cases hj : j < vs.length
  · rw [List.getElem?_append_left hj] at hu
    have e1 : (L ++ [l]).getD j [] = L.getD j [] := by
      rw [List.getD_eq_getElem?_getD, List.getD_eq_getElem?_getD, List.getElem?_append_left (by rw [← h.1]; exact hj)]
    rw [e1]
    exact h.2 j u hu
  · rw [List.getElem?_append_right (by omega)] at hu
    have hj0 : j - vs.length = 0 := by
      rcases Nat.eq_zero_or_pos (j - vs.length) with h0 | h0
      · exact h0
      · rw [List.getElem?_eq_none (by simp; omega)] at hu; cases hu
    rw [hj0] at hu
    simp at hu
    subst hu
    have hjl : j = L.length := by rw [← h.1]; omega
    subst hjl
    have e1 : (L ++ [l]).getD L.length [] = l := by simp [List.getD_eq_getElem?_getD]
    rw [e1]
    exact hv
/-- The j-th of them, out of the slice that holds them. -/
theorem Elems.at_ (h : Elems w base e vs L) {j : Nat} (hj : j < L.length) : ∃ v, vs[j]? = some v ∧ w.ownsRow base e 1 v (L.getD j []).length (I (L.getD j [])) := by
  have : j < vs.length := by rw [h.1]; exact hj
  exact ⟨vs[j], List.getElem?_eq_getElem this, h.2 j _ (List.getElem?_eq_getElem this)⟩
end

/-- n zeros, as make lays them. -/
def zeros (n : Nat) : Array Value := (I (List.replicate n 0)).toArray
theorem madeCells_zeros (n : Nat) : madeCells (Value.int .i64 0).cells n = zeros n := by
  apply Array.ext'
  have h := toList_madeCells_one (.int .i64 0) n
  have e : (Value.int .i64 0).cells = #[.int .i64 0] := rfl
  rw [e, h]
  simp [zeros, I]

/-- Rows of different element types lie apart. -/
theorem own_far {w : World} {base base' n n' : Nat} {e e' : TypeId} {v v' : Value} {xs xs' : List Value} (h : w.ownsRow base e 1 v n xs) (h' : w.ownsRow base' e' 1 v' n' xs') (hne : e ≠ e') : v'.ownBlock = none ∨ v'.ownBlock ≠ v.ownBlock := by
  cases hb : v'.ownBlock with
  | none => exact .inl rfl
  | some b =>
    right
    intro he
    obtain ⟨c, hc⟩ := own_kind h he.symm
    obtain ⟨c', hc'⟩ := own_kind h' hb
    rw [hc] at hc'
    injection hc' with hc'
    injection hc' with _ hc'
    exact hne hc'

/-- The slice of n slices at a reads in w as L; what it reads lies below block B. -/
def RdR (w : World) (B : Nat) (a : Option Addr) (n : Nat) (L : List (List Int)) : Prop :=
  L.length = n ∧ (0 < n → ∃ b o, a = some ⟨b, o, none⟩ ∧ b < B ∧ ∀ j, j < n → ∃ a' c', w.cell? ⟨b, o + j, none⟩ = some (.slice a' (L.getD j []).length c') ∧ (L.getD j []).length ≤ c' ∧ (a' = none → c' = 0) ∧ c' ≤ maxLen ∧ Rd w B a' (L.getD j []).length (L.getD j []))
section
variable {w w' : World} {B B' n : Nat} {a : Option Addr} {L : List (List Int)}
theorem RdR.nil_ : RdR w B a 0 [] := ⟨rfl, fun h => absurd h (by omega)⟩
theorem RdR.keep (h : RdR w B a n L) (hk : ∀ p : Addr, p.block < B → w'.cell? p = w.cell? p) : RdR w' B a n L :=
  ⟨h.1, fun hn => by
    obtain ⟨b, o, e, hb, hc⟩ := h.2 hn
    refine ⟨b, o, e, hb, fun j hj => ?_⟩
    obtain ⟨a', c', h1, h2, h3, h4, h5⟩ := hc j hj
    exact ⟨a', c', (hk _ hb).trans h1, h2, h3, h4, h5.keep hk⟩⟩
theorem RdR.more (h : RdR w B a n L) (hB : B ≤ B') : RdR w B' a n L :=
  ⟨h.1, fun hn => by
    obtain ⟨b, o, e, hb, hc⟩ := h.2 hn
    refine ⟨b, o, e, by omega, fun j hj => ?_⟩
    obtain ⟨a', c', h1, h2, h3, h4, h5⟩ := hc j hj
    exact ⟨a', c', h1, h2, h3, h4, h5.more hB⟩⟩
theorem RdR.below (h : RdR w B a n L) (hb : Below B' w w') (hB : B ≤ B') : RdR w' B a n L := h.keep fun p hp => hb.cell (by omega)
theorem RdR.drewN (h : RdR w B a n L) (k : Nat) : RdR (w.drewN k) B a n L := h
theorem RdR.drew (h : RdR w B a n L) : RdR w.drew B a n L := h
theorem RdR.alloc (h : RdR w B a n L) (hB : B ≤ w.heap.size) (o : Obj) : RdR (w.alloc o) B a n L := h.keep fun p hp => World.cell?_alloc_lt w o p (by omega)
theorem RdR.at_ (h : RdR w B a n L) {k : Nat} (hk : k < n) : ∃ b o a' c', a = some ⟨b, o, none⟩ ∧ b < B ∧ w.cell? ⟨b, o + k, none⟩ = some (.slice a' (L.getD k []).length c') ∧ (L.getD k []).length ≤ c' ∧ (a' = none → c' = 0) ∧ c' ≤ maxLen ∧ Rd w B a' (L.getD k []).length (L.getD k []) := by
  obtain ⟨b, o, e, hb, hc⟩ := h.2 (by omega)
  obtain ⟨a', c', h1, h2, h3, h4, h5⟩ := hc k hk
  exact ⟨b, o, a', c', e, hb, h1, h2, h3, h4, h5⟩
/-- Rows that a call has made read as what they hold. -/
theorem RdR.of_own {base c : Nat} {e e' : TypeId} {vs : List Value} (h : w.ownsRow base e 1 (.slice a n c) n vs) (hn : L.length = n) (he : Elems w base e' vs L) : RdR w w.heap.size a n L := by
  refine ⟨hn, fun h0 => ?_⟩
  obtain ⟨g, cap, hv, _, hlt⟩ := h.form h0
  injection hv with hv _ hv3
  subst hv; subst hv3
  refine ⟨g, 0, rfl, hlt, fun j hj => ?_⟩
  obtain ⟨v, hvj, ho⟩ := he.at_ (j := j) (by omega)
  obtain ⟨a', c', rfl, h1, h2⟩ := own_slice ho
  exact ⟨a', c', by rw [Nat.zero_add, h.cellAt j (by omega)]; exact hvj, h1, own_nil ho, h2, Rd.of_own ho⟩
end
end Fm

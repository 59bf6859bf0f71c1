/-
  The strongest paths of a pairwise table, by all paths that go through no alternative twice, and what they keep: no Go text.
-/
import Derived.Test.YtkenbogkjoafjaaPureA
namespace Fm
set_option linter.unusedVariables false

/-- A step of strength t at least. -/
def edge (M : List (List Int)) (t : Int) (x k : Nat) : Prop := btB M x k = true ∧ t ≤ ent M x k
/-- The greatest of the first k, and 0. -/
def mxTo (g : Nat → Int) : Nat → Int
  | 0 => 0
  | k + 1 => max (mxTo g k) (g k)
theorem mxTo_nonneg (g : Nat → Int) (k : Nat) : 0 ≤ mxTo g k := by
  induction k with
  | zero => exact Int.le_refl _
  | succ k ih => rw [mxTo]; omega
theorem le_mxTo {g : Nat → Int} {t : Int} (ht : 1 ≤ t) (m : Nat) : t ≤ mxTo g m ↔ ∃ k, k < m ∧ t ≤ g k := by
  induction m with
  | zero => exact ⟨fun h => by rw [mxTo] at h; omega, fun ⟨k, h, _⟩ => absurd h (by omega)⟩
  | succ m ih =>
    rw [mxTo]
    constructor
    · intro h
      by_cases h2 : t ≤ g m
      · exact ⟨m, by omega, h2⟩
      · obtain ⟨k, h3, h4⟩ := ih.1 (by omega)
        exact ⟨k, by omega, h4⟩
    · rintro ⟨k, h3, h4⟩
      by_cases e : k = m
      · subst e; omega
      · have := ih.2 ⟨k, by omega, h4⟩
        omega
theorem mxTo_le {g : Nat → Int} {b : Int} (hb : 0 ≤ b) (m : Nat) (h : ∀ k, k < m → g k ≤ b) : mxTo g m ≤ b := by
  induction m with
  | zero => exact hb
  | succ m ih =>
    rw [mxTo]
    have := ih (fun k hk => h k (by omega))
    have := h m (by omega)
    omega
theorem mxTo_congr {g h : Nat → Int} (m : Nat) (e : ∀ k, k < m → g k = h k) : mxTo g m = mxTo h m := by
  induction m with
  | zero => rfl
  | succ m ih => rw [mxTo, mxTo, ih (fun k hk => e k (by omega)), e m (by omega)]

/-- The strongest path from x to y by alternatives that s has not, of width wd so far; f: how many are left. -/
def wayF (n : Nat) (M : List (List Int)) : Nat → Nat → Nat → Nat → Int → Int
  | 0, x, y, s, wd => if x = y then wd else 0
  | f + 1, x, y, s, wd => if x = y then wd else mxTo (fun k => if s.testBit k = false ∧ btB M x k = true then wayF n M f k y (s ||| 2 ^ k) (min wd (ent M x k)) else 0) n
/-- A path of strength t, by alternatives that s has not, none of them twice. -/
def Av (n : Nat) (M : List (List Int)) (t : Int) : Nat → Nat → Nat → Nat → Prop
  | 0, s, x, y => x = y
  | f + 1, s, x, y => x = y ∨ ∃ k, k < n ∧ s.testBit k = false ∧ edge M t x k ∧ Av n M t f (s ||| 2 ^ k) k y
/-- A walk of strength t and of l steps, by alternatives that s has not. -/
def Wk (n : Nat) (M : List (List Int)) (t : Int) (s : Nat) : Nat → Nat → Nat → Prop
  | 0, x, y => x = y
  | l + 1, x, y => ∃ k, k < n ∧ s.testBit k = false ∧ edge M t x k ∧ Wk n M t s l k y

theorem way_iff {n : Nat} {M : List (List Int)} {t : Int} (ht : 1 ≤ t) : ∀ (f x y s : Nat) (wd : Int), t ≤ wayF n M f x y s wd ↔ t ≤ wd ∧ Av n M t f s x y := by
  intro f
  induction f with
  | zero =>
    intro x y s wd
    rw [wayF, Av]
    by_cases e : x = y
    · rw [if_pos e]; exact ⟨fun h => ⟨h, e⟩, fun h => h.1⟩
    · rw [if_neg e]; exact ⟨fun h => by omega, fun h => absurd h.2 e⟩
  | succ f ih =>
    intro x y s wd
    rw [wayF, Av]
    by_cases e : x = y
    · rw [if_pos e]; exact ⟨fun h => ⟨h, .inl e⟩, fun h => h.1⟩
    · rw [if_neg e, le_mxTo ht]
      constructor
      · rintro ⟨k, hk, h⟩
        by_cases hc : s.testBit k = false ∧ btB M x k = true
        · rw [if_pos hc, ih] at h
          exact ⟨by omega, .inr ⟨k, hk, hc.1, ⟨hc.2, by omega⟩, h.2⟩⟩
        · rw [if_neg hc] at h; omega
      · rintro ⟨h1, h2⟩
        rcases h2 with h2 | ⟨k, hk, hs, he, hv⟩
        · exact absurd h2 e
        · refine ⟨k, hk, ?_⟩
          rw [if_pos ⟨hs, he.1⟩, ih]
          exact ⟨by have := he.2; omega, hv⟩

theorem bit_or (s k j : Nat) : (s ||| 2 ^ k).testBit j = (s.testBit j || decide (k = j)) := by rw [Nat.testBit_or, Nat.testBit_two_pow]
section
variable {n : Nat} {M : List (List Int)} {t : Int}
theorem Wk.sub {s s' : Nat} (hs : ∀ k, s'.testBit k = true → s.testBit k = true) : ∀ {l x y : Nat}, Wk n M t s l x y → Wk n M t s' l x y := by
  intro l
  induction l with
  | zero => exact fun h => h
  | succ l ih =>
    rintro x y ⟨k, hk, h1, h2, h3⟩
    refine ⟨k, hk, ?_, h2, ih h3⟩
    cases hb : s'.testBit k with
    | false => rfl
    | true => rw [hs k hb] at h1; cases h1
theorem Wk.avoid {s x : Nat} : ∀ {l k y : Nat}, Wk n M t s l k y → Wk n M t (s ||| 2 ^ x) l k y ∨ ∃ l', l' < l ∧ Wk n M t s l' x y := by
  intro l
  induction l with
  | zero => exact fun h => .inl h
  | succ l ih =>
    rintro k y ⟨j, hj, h1, h2, h3⟩
    by_cases e : j = x
    · subst e; exact .inr ⟨l, by omega, h3⟩
    · rcases ih h3 with h4 | ⟨l', h4, h5⟩
      · refine .inl ⟨j, hj, ?_, h2, h4⟩
        rw [bit_or, h1]; simp; omega
      · exact .inr ⟨l', by omega, h5⟩
theorem Wk.last {s : Nat} : ∀ (l : Nat) {x y : Nat}, Wk n M t s l x y → ∃ l', l' ≤ l ∧ Wk n M t (s ||| 2 ^ x) l' x y := by
  intro l
  induction l using Nat.strongRecOn with
  | ind l ih =>
    intro x y h
    rcases h.avoid (x := x) with h1 | ⟨l', h1, h2⟩
    · exact ⟨l, Nat.le_refl _, h1⟩
    · obtain ⟨l'', h3, h4⟩ := ih l' h1 h2
      exact ⟨l'', by omega, h4⟩
theorem Wk.av : ∀ (l : Nat) {s x y : Nat}, Wk n M t s l x y → Av n M t l s x y := by
  intro l
  induction l using Nat.strongRecOn with
  | ind l ih =>
    intro s x y h
    cases l with
    | zero => exact h
    | succ l =>
      obtain ⟨k, hk, h1, h2, h3⟩ := h
      obtain ⟨l', h4, h5⟩ := h3.last
      have h6 := ih l' (by omega) h5
      refine .inr ⟨k, hk, h1, h2, ?_⟩
      have more : ∀ (a b s x y : Nat), a ≤ b → Av n M t a s x y → Av n M t b s x y := by
        intro a
        induction a with
        | zero =>
          intro b s x y _ h
          cases b with
          | zero => exact h
          | succ b => exact .inl h
        | succ a iha =>
          intro b s x y hab h
          cases b with
          | zero => omega
          | succ b =>
            rcases h with h | ⟨k, hk, h1, h2, h3⟩
            · exact .inl h
            · exact .inr ⟨k, hk, h1, h2, iha b _ _ _ (by omega) h3⟩
      exact more _ _ _ _ _ h4 h6
/-- How many of the first n are not in s. -/
def freeN (n s : Nat) : Nat := ((List.range n).filter (fun k => !s.testBit k)).length
theorem freeN_le (n s : Nat) : freeN n s ≤ n := by unfold freeN; exact Nat.le_trans (List.length_filter_le _ _) (by simp)
theorem freeN_or {s k : Nat} (hk : k < n) (h : s.testBit k = false) : freeN n (s ||| 2 ^ k) + 1 = freeN n s := by
  unfold freeN
  induction n with
  | zero => omega
  | succ n ih =>
    rw [List.range_succ, List.filter_append, List.filter_append, List.length_append, List.length_append]
    by_cases e : k = n
    · subst e
      have e1 : (List.range k).filter (fun j => !(s ||| 2 ^ k).testBit j) = (List.range k).filter (fun j => !s.testBit j) := by
        apply List.filter_congr
        intro j hj
        have := List.mem_range.1 hj
        rw [bit_or]
        have : decide (k = j) = false := by simp; omega
        rw [this, Bool.or_false]
      rw [e1]
      simp [h]
    · have := ih (by omega)
      have e2 : [n].filter (fun j => !(s ||| 2 ^ k).testBit j) = [n].filter (fun j => !s.testBit j) := by
        apply List.filter_congr
        intro j hj
        have := List.mem_singleton.1 hj
        subst this
        rw [bit_or]
        have : decide (k = j) = false := by simp; omega
        rw [this, Bool.or_false]
      rw [e2]; omega
theorem Av.fuel : ∀ (a f s x y : Nat), freeN n s ≤ f → Av n M t a s x y → Av n M t f s x y := by
  intro a
  induction a with
  | zero =>
    intro f s x y _ h
    cases f with
    | zero => exact h
    | succ f => exact .inl h
  | succ a ih =>
    intro f s x y hf h
    rcases h with h | ⟨k, hk, h1, h2, h3⟩
    · cases f with
      | zero => exact h
      | succ f => exact .inl h
    · have := freeN_or hk h1
      cases f with
      | zero => omega
      | succ f => exact .inr ⟨k, hk, h1, h2, ih f _ _ _ (by omega) h3⟩
theorem Av.walk : ∀ (f : Nat) {s x y : Nat}, Av n M t f s x y → ∃ l, Wk n M t 0 l x y := by
  intro f
  induction f with
  | zero => exact fun h => ⟨0, h⟩
  | succ f ih =>
    intro s x y h
    rcases h with h | ⟨k, hk, _, h2, h3⟩
    · exact ⟨0, h⟩
    · obtain ⟨l, hl⟩ := ih h3
      exact ⟨l + 1, k, hk, Nat.zero_testBit k, h2, hl⟩

/-- From x one comes to y by steps of strength t. -/
def Rch (n : Nat) (M : List (List Int)) (t : Int) (x y : Nat) : Prop := ∃ l, Wk n M t 0 l x y
theorem Rch.refl (x : Nat) : Rch n M t x x := ⟨0, rfl⟩
theorem Rch.step {x k y : Nat} (hk : k < n) (h : edge M t x k) (h2 : Rch n M t k y) : Rch n M t x y := by
  obtain ⟨l, hl⟩ := h2
  exact ⟨l + 1, k, hk, Nat.zero_testBit k, h, hl⟩
theorem Rch.trans {x y z : Nat} (h : Rch n M t x y) (h2 : Rch n M t y z) : Rch n M t x z := by
  obtain ⟨l, hl⟩ := h
  induction l generalizing x with
  | zero => have : x = y := hl
            subst this; exact h2
  | succ l ih =>
    obtain ⟨k, hk, _, he, hw⟩ := hl
    exact Rch.step hk he (ih hw)
theorem Rch.ind {x y : Nat} (h : Rch n M t x y) {P : Nat → Prop} (h0 : P x) (hs : ∀ a b, a < n ∨ a = x → b < n → P a → edge M t a b → P b) : P y := by
  obtain ⟨l, hl⟩ := h
  have : ∀ l x', (x' < n ∨ x' = x) → P x' → Wk n M t 0 l x' y → P y := by
    intro l
    induction l with
    | zero => intro x' _ hp h; have : x' = y := h
              subst this; exact hp
    | succ l ih =>
      rintro x' hx hp ⟨k, hk, _, he, hw⟩
      exact ih k (.inl hk) (hs x' k hx hk hp he) hw
  exact this l x (.inr rfl) h0 hl
theorem way_rch (ht : 1 ≤ t) {f x y : Nat} {wd : Int} (hf : n ≤ f) : t ≤ wayF n M f x y (2 ^ x) wd ↔ t ≤ wd ∧ Rch n M t x y := by
  rw [way_iff ht]
  constructor
  · rintro ⟨h1, h2⟩; exact ⟨h1, h2.walk⟩
  · rintro ⟨h1, l, h2⟩
    obtain ⟨l', _, h3⟩ := h2.last
    rw [Nat.zero_or] at h3
    exact ⟨h1, (h3.av).fuel _ _ _ _ _ (Nat.le_trans (freeN_le _ _) hf)⟩
end
end Fm

/-
  The candidates of a game with two rows, one by one; the best of a sorted list: numbers and lists alone, no Go text.
-/
import Derived.Test.YtilgoinbajmamaaMixCand
import Derived.Test.YtilgoinbajmamaaLowMath
namespace Fm
set_option linter.unusedVariables false

def cnP (M : List (List Int)) (i j : Nat) : Int := ent M 1 j - ent M 1 i
def cnQ (M : List (List Int)) (i j : Nat) : Int := slope M i - slope M j
def cnOk (M : List (List Int)) (i j : Nat) : Prop := 0 < cnQ M i j ∧ 0 ≤ cnP M i j ∧ cnP M i j ≤ cnQ M i j
instance (M : List (List Int)) (i j : Nat) : Decidable (cnOk M i j) := by unfold cnOk; exact inferInstance
/-- The candidates where the columns before i met, and i and those before j. -/
def cnI (M : List (List Int)) (i : Nat) : Nat → List (Int × Int)
  | 0 => []
  | j + 1 => cnI M i j ++ if cnOk M i j then [(cnP M i j, cnQ M i j)] else []
def cnA (M : List (List Int)) (k : Nat) : Nat → List (Int × Int)
  | 0 => [(0, 1), (1, 1)]
  | i + 1 => cnA M k i ++ cnI M i k
section
variable {M : List (List Int)} {k : Nat}
theorem mem_cnI {i : Nat} {b : Int × Int} : ∀ j, b ∈ cnI M i j ↔ ∃ y, y < j ∧ cnOk M i y ∧ b = (cnP M i y, cnQ M i y) := by
  intro j
  induction j with
  | zero => simp [cnI]
  | succ j ih =>
    rw [cnI, List.mem_append, ih]
    constructor
    · rintro (⟨y, h1, h2, h3⟩ | h)
      · exact ⟨y, by omega, h2, h3⟩
      · by_cases q : cnOk M i j
        · rw [if_pos q] at h; exact ⟨j, by omega, q, by simpa using h⟩
        · rw [if_neg q] at h; cases h
    · rintro ⟨y, h1, h2, h3⟩
      by_cases q : y = j
      · subst q; right; rw [if_pos h2, h3]; simp
      · left; exact ⟨y, by omega, h2, h3⟩
theorem mem_cnA {b : Int × Int} : ∀ i, b ∈ cnA M k i ↔ b = (0, 1) ∨ b = (1, 1) ∨ ∃ x y, x < i ∧ y < k ∧ cnOk M x y ∧ b = (cnP M x y, cnQ M x y) := by
  intro i
  induction i with
  | zero => simp [cnA]
  | succ i ih =>
    rw [cnA, List.mem_append, ih, mem_cnI]
    constructor
    · rintro ((h | h | ⟨x, y, h1, h2, h3, h4⟩) | ⟨y, h1, h2, h3⟩)
      · exact .inl h
      · exact .inr (.inl h)
      · exact .inr (.inr ⟨x, y, by omega, h2, h3, h4⟩)
      · exact .inr (.inr ⟨i, y, by omega, h1, h2, h3⟩)
    · rintro (h | h | ⟨x, y, h1, h2, h3, h4⟩)
      · exact .inl (.inl h)
      · exact .inl (.inr (.inl h))
      · by_cases q : x = i
        · subst q; right; exact ⟨y, h2, h3, h4⟩
        · left; exact .inr (.inr ⟨x, y, by omega, h2, h3, h4⟩)
theorem cnI_len (i : Nat) : ∀ j, (cnI M i j).length ≤ j := by
  intro j
  induction j with
  | zero => exact Nat.le_refl _
  | succ j ih =>
    rw [cnI, List.length_append]
    have : (if cnOk M i j then [(cnP M i j, cnQ M i j)] else []).length ≤ 1 := by split <;> simp
    omega
theorem cnA_len : ∀ i, (cnA M k i).length ≤ 2 + i * k := by
  intro i
  induction i with
  | zero => simp [cnA]
  | succ i ih => rw [cnA, List.length_append, Nat.succ_mul]; have := cnI_len (M := M) i k; omega
theorem cnA_two (k : Nat) : ∀ i, 2 ≤ (cnA M k i).length := by
  intro i
  induction i with
  | zero => simp [cnA]
  | succ i ih => rw [cnA, List.length_append]; omega
theorem cn_cand (p : Pay 2 k M) {C : List (Int × Int)} (hC : C.Perm (cnA M k k)) : Cand M k C where
  c0 := hC.mem_iff.2 ((mem_cnA k).2 (.inl rfl))
  c1 := hC.mem_iff.2 ((mem_cnA k).2 (.inr (.inl rfl)))
  rng c hc := by
    rcases (mem_cnA k).1 (hC.mem_iff.1 hc) with rfl | rfl | ⟨x, y, _, _, ⟨h1, h2, h3⟩, rfl⟩
    · decide
    · decide
    · dsimp only
      have a1 := slope_bd p x
      have a2 := slope_bd p y
      unfold cnQ at *
      omega
  cross i j hi hj h1 h2 h3 := hC.mem_iff.2 ((mem_cnA k).2 (.inr (.inr ⟨i, j, hi, hj, ⟨h1, h2, h3⟩, rfl⟩)))

/-- Ratios in order. -/
def Asc (C : List (Int × Int)) : Prop := ∀ i j, i < j → j < C.length → (C.getD i (0, 1)).1 * (C.getD j (0, 1)).2 ≤ (C.getD j (0, 1)).1 * (C.getD i (0, 1)).2
/-- The b-th is the first of the best among the first n of C, by the measure f. -/
structure BestTo (f : Int → Int → Int) (C : List (Int × Int)) (n b : Nat) : Prop where
  lt : b < n
  best : ∀ i, i < n → f (C.getD i (0, 1)).1 (C.getD i (0, 1)).2 * (C.getD b (0, 1)).2 ≤ f (C.getD b (0, 1)).1 (C.getD b (0, 1)).2 * (C.getD i (0, 1)).2
  first : ∀ i, i < n → f (C.getD i (0, 1)).1 (C.getD i (0, 1)).2 * (C.getD b (0, 1)).2 = f (C.getD b (0, 1)).1 (C.getD b (0, 1)).2 * (C.getD i (0, 1)).2 → b ≤ i
theorem BestTo.one (f : Int → Int → Int) (C : List (Int × Int)) : BestTo f C 1 0 := ⟨by omega, (fun i hi => by obtain rfl : i = 0 := (by omega); exact Int.le_refl _), fun i _ _ => Nat.zero_le _⟩
theorem BestTo.stay {f : Int → Int → Int} {C : List (Int × Int)} {n b : Nat} (h : BestTo f C n b) (hn : ¬ f (C.getD b (0, 1)).1 (C.getD b (0, 1)).2 * (C.getD n (0, 1)).2 < f (C.getD n (0, 1)).1 (C.getD n (0, 1)).2 * (C.getD b (0, 1)).2) : BestTo f C (n + 1) b := by
  have hl := h.lt
  refine ⟨by omega, fun i hi => ?_, fun i hi he => ?_⟩
  · by_cases e : i = n
    · subst e; omega
    · exact h.best i (by omega)
  · by_cases e : i = n
    · omega
    · exact h.first i (by omega) he
theorem BestTo.move {f : Int → Int → Int} {C : List (Int × Int)} {n b : Nat} (h : BestTo f C n b) (hq : ∀ i, 1 ≤ (C.getD i (0, 1)).2) (hn : f (C.getD b (0, 1)).1 (C.getD b (0, 1)).2 * (C.getD n (0, 1)).2 < f (C.getD n (0, 1)).1 (C.getD n (0, 1)).2 * (C.getD b (0, 1)).2) : BestTo f C (n + 1) n := by
  have key : ∀ i, i < n → f (C.getD i (0, 1)).1 (C.getD i (0, 1)).2 * (C.getD n (0, 1)).2 < f (C.getD n (0, 1)).1 (C.getD n (0, 1)).2 * (C.getD i (0, 1)).2 := fun i hi => by
    have h1 := h.best i hi
    have q1 := hq i
    have q2 := hq b
    have q3 := hq n
    generalize f (C.getD i (0, 1)).1 (C.getD i (0, 1)).2 = fi at *
    generalize f (C.getD b (0, 1)).1 (C.getD b (0, 1)).2 = fb at *
    generalize f (C.getD n (0, 1)).1 (C.getD n (0, 1)).2 = fn at *
    generalize (C.getD i (0, 1)).2 = di at *
    generalize (C.getD b (0, 1)).2 = db at *
    generalize (C.getD n (0, 1)).2 = dn at *
    have a1 : fi * db * dn ≤ fb * di * dn := Int.mul_le_mul_of_nonneg_right h1 (by omega)
    have a2 : fb * dn * di < fn * db * di := Int.mul_lt_mul_of_pos_right hn (by omega)
    have e1 : fi * db * dn = db * (fi * dn) := by grind
    have e2 : fb * di * dn = fb * dn * di := by grind
    have e3 : fn * db * di = db * (fn * di) := by grind
    have a3 : db * (fi * dn) < db * (fn * di) := by rw [← e1, ← e3]; omega
    exact Int.lt_of_mul_lt_mul_left a3 (by omega)
  refine ⟨by omega, fun i hi => ?_, fun i hi he => ?_⟩
  · by_cases e : i = n
    · subst e; exact Int.le_refl _
    · have := key i (by omega); omega
  · by_cases e : i = n
    · omega
    · have := key i (by omega); omega
theorem getD_q {C : List (Int × Int)} {i : Nat} (hi : i < C.length) : C.getD i (0, 1) ∈ C := by
  rw [List.getD_eq_getElem?_getD, List.getElem?_eq_getElem hi]; exact List.getElem_mem hi
theorem best_to {C : List (Int × Int)} {b : Nat} (hs : Asc C) (h : BestTo (lvOf M k) C C.length b) : BestC M k C (C.getD b (0, 1)).1 (C.getD b (0, 1)).2 where
  mem := getD_q h.lt
  best c hc := by
    obtain ⟨i, hi, rfl⟩ := List.getElem_of_mem hc
    have := h.best i hi
    rw [List.getD_eq_getElem?_getD (i := i), List.getElem?_eq_getElem hi] at this
    exact this
  first c hc he := by
    obtain ⟨i, hi, rfl⟩ := List.getElem_of_mem hc
    have h1 := h.first i hi
    have e : C.getD i (0, 1) = C[i] := by rw [List.getD_eq_getElem?_getD, List.getElem?_eq_getElem hi]; rfl
    rw [e] at h1
    have h2 := h1 he
    by_cases q : b = i
    · subst q; rw [e]; exact Int.le_refl _
    · have := hs b i (by omega) hi
      rw [e] at this
      exact this
end
end Fm

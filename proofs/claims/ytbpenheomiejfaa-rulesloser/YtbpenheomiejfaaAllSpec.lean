/-
  All orders, one after another: lists of ints alone, no Go text.
-/
import Derived.Test.YtbpenheomiejfaaOrdMath
namespace Fm
set_option linter.unusedVariables false

/-- All orders of the given ones: each at the front, ahead of all orders of the others (k: how many there are). -/
def perms : Nat → List Int → List (List Int)
  | 0, _ => [[]]
  | k + 1, S => (List.range S.length).flatMap fun i => (perms k (S.eraseIdx i)).map (S.getD i 0 :: ·)

theorem mem_perms : ∀ (k : Nat) (S p : List Int), S.length = k → (p ∈ perms k S ↔ p.Perm S) := by
  intro k
  induction k with
  | zero =>
    intro S p hS
    have := List.eq_nil_of_length_eq_zero hS
    subst this
    simp [perms]
  | succ k ih =>
    intro S p hS
    simp only [perms, List.mem_flatMap, List.mem_range, List.mem_map]
    constructor
    · rintro ⟨i, hi, q, hq, rfl⟩
      have h1 := (ih (S.eraseIdx i) q (by rw [List.length_eraseIdx, if_pos hi]; omega)).1 hq
      exact (List.Perm.cons _ h1).trans (eraseIdx_perm S i hi)
    · intro hp
      cases p with
      | nil =>
        have := hp.length_eq
        simp at this
        omega
      | cons x q =>
        have hx : x ∈ S := hp.mem_iff.1 (by simp)
        obtain ⟨i, hi, rfl⟩ := List.getElem_of_mem hx
        refine ⟨i, hi, q, (ih (S.eraseIdx i) q (by rw [List.length_eraseIdx, if_pos hi]; omega)).2 ?_, by rw [getD_get hi]⟩
        have h2 := (hp.trans (eraseIdx_perm S i hi).symm)
        rw [getD_get hi] at h2
        exact List.Perm.cons_inv h2

/-- One above the last place k below the given one with p at k not above p at k + 1. -/
def scanI (p : List Int) : Nat → Nat
  | 0 => 0
  | k + 1 => if p.getD (k + 1) 0 < p.getD k 0 then scanI p k else k + 1
/-- The last place, not above the given one, at which p is not below x. -/
def scanJ (p : List Int) (x : Int) : Nat → Nat
  | 0 => 0
  | k + 1 => if p.getD (k + 1) 0 < x then scanJ p x k else k + 1
def exch (p : List Int) (i j : Nat) : List Int := (p.set i (p.getD j 0)).set j (p.getD i 0)
def turnTail (p : List Int) (k : Nat) : List Int := p.take k ++ (p.drop k).reverse
/-- The next order, if there is one. -/
def nxt (p : List Int) : Option (List Int) :=
  match scanI p (p.length - 1) with
  | 0 => none
  | i + 1 => some (turnTail (exch p i (scanJ p (p.getD i 0) (p.length - 1))) (i + 1))

def chainOk : List (List Int) → Bool
  | [] => true
  | x :: t => (match t with | [] => (nxt x == none) | y :: _ => (nxt x == some y)) && chainOk t

/-- How slices.Compare orders two lists. -/
def cmpL : List Int → List Int → Int
  | [], [] => 0
  | [], _ :: _ => -1
  | _ :: _, [] => 1
  | x :: a, y :: b => if x < y then -1 else if y < x then 1 else cmpL a b
def risingOk : List (List Int) → Bool
  | [] => true
  | x :: t => (match t with | [] => true | y :: _ => (cmpL x y == -1)) && risingOk t

def allO (n : Nat) : List (List Int) := perms n (sides n)
def fact : Nat → Nat
  | 0 => 1
  | k + 1 => fact k * (k + 1)
def allOk (n : Nat) : Bool := chainOk (allO n) && risingOk (allO n) && ((allO n).length == fact n) && ((allO n).head? == some (sides n))

theorem allOk_1 : allOk 1 = true := by decide +kernel
theorem allOk_2 : allOk 2 = true := by decide +kernel
theorem allOk_3 : allOk 3 = true := by decide +kernel
theorem allOk_4 : allOk 4 = true := by decide +kernel
theorem allOk_5 : allOk 5 = true := by decide +kernel
theorem allOk_6 : allOk 6 = true := by decide +kernel
theorem allOk_any {n : Nat} (h1 : 1 ≤ n) (h6 : n ≤ 6) : allOk n = true := by
  match n, h1, h6 with
  | 1, _, _ => exact allOk_1
  | 2, _, _ => exact allOk_2
  | 3, _, _ => exact allOk_3
  | 4, _, _ => exact allOk_4
  | 5, _, _ => exact allOk_5
  | 6, _, _ => exact allOk_6

theorem chain_at : ∀ (L : List (List Int)) (k : Nat), chainOk L = true → k < L.length → nxt (L.getD k []) = L[k + 1]? := by
  intro L
  induction L with
  | nil => intro k _ hk; simp at hk
  | cons x t ih =>
    intro k h hk
    simp only [chainOk, Bool.and_eq_true] at h
    cases k with
    | zero =>
      cases t with
      | nil => simpa using h.1
      | cons y t => simpa using h.1
    | succ k =>
      have := ih k h.2 (by simpa using hk)
      simpa using this
theorem rising_at : ∀ (L : List (List Int)) (k : Nat), risingOk L = true → k + 1 < L.length → cmpL (L.getD k []) (L.getD (k + 1) []) = -1 := by
  intro L
  induction L with
  | nil => intro k _ hk; simp at hk
  | cons x t ih =>
    intro k h hk
    simp only [risingOk, Bool.and_eq_true] at h
    cases k with
    | zero =>
      cases t with
      | nil => simp at hk
      | cons y t => simpa using h.1
    | succ k =>
      have := ih k h.2 (by simpa using hk)
      simpa using this
section
variable {n : Nat} (h1 : 1 ≤ n) (h6 : n ≤ 6)
include h1 h6
theorem allO_next {k : Nat} (hk : k < (allO n).length) : nxt ((allO n).getD k []) = (allO n)[k + 1]? := by
  have := allOk_any h1 h6
  simp only [allOk, Bool.and_eq_true] at this
  exact chain_at _ k this.1.1.1 hk
theorem allO_rising {k : Nat} (hk : k + 1 < (allO n).length) : cmpL ((allO n).getD k []) ((allO n).getD (k + 1) []) = -1 := by
  have := allOk_any h1 h6
  simp only [allOk, Bool.and_eq_true] at this
  exact rising_at _ k this.1.1.2 hk
theorem allO_len : (allO n).length = fact n := by
  have := allOk_any h1 h6
  simp only [allOk, Bool.and_eq_true] at this
  simpa using this.1.2
theorem allO_head : (allO n).getD 0 [] = sides n := by
  have := allOk_any h1 h6
  simp only [allOk, Bool.and_eq_true] at this
  have h2 : (allO n).head? = some (sides n) := by simpa using this.2
  cases h : allO n with
  | nil => rw [h] at h2; cases h2
  | cons x t => rw [h] at h2; simpa using h2
end
theorem fact_le {n : Nat} (h6 : n ≤ 6) : fact n ≤ 720 := by
  match n, h6 with
  | 0, _ => decide +kernel
  | 1, _ => decide +kernel
  | 2, _ => decide +kernel
  | 3, _ => decide +kernel
  | 4, _ => decide +kernel
  | 5, _ => decide +kernel
  | 6, _ => decide +kernel
theorem allO_le {n : Nat} (h1 : 1 ≤ n) (h6 : n ≤ 6) : (allO n).length ≤ 720 := by rw [allO_len h1 h6]; exact fact_le h6
theorem nxt_none {p : List Int} (h : nxt p = none) : scanI p (p.length - 1) = 0 := by
  unfold nxt at h
  split at h
  · assumption
  · cases h
theorem nxt_some {p q : List Int} (h : nxt p = some q) : ∃ i, scanI p (p.length - 1) = i + 1 ∧ q = turnTail (exch p i (scanJ p (p.getD i 0) (p.length - 1))) (i + 1) := by
  unfold nxt at h
  split at h
  · cases h
  · rename_i i hi
    injection h with h
    exact ⟨i, hi, h.symm⟩
theorem mem_allO {n : Nat} {p : List Int} : p ∈ allO n ↔ p.Perm (sides n) := mem_perms n (sides n) p (sides_len n)
theorem fact_ge (k : Nat) : 1 ≤ fact k := by
  induction k with
  | zero => exact Nat.le_refl _
  | succ k ih => simp only [fact]; exact Nat.le_trans ih (Nat.le_mul_of_pos_right _ (by omega))
theorem perms_len : ∀ (k : Nat) (S : List Int), S.length = k → (perms k S).length = fact k := by
  intro k
  induction k with
  | zero => intro S _; rfl
  | succ k ih =>
    intro S hS
    simp only [perms, fact]
    rw [List.length_flatMap]
    have e : (List.range S.length).map (fun i => ((perms k (S.eraseIdx i)).map (S.getD i 0 :: ·)).length) = (List.range S.length).map (fun _ => fact k) := by
      apply List.map_congr_left
      intro i hi
      have hi := List.mem_range.1 hi
      rw [List.length_map, ih _ (by rw [List.length_eraseIdx, if_pos hi]; omega)]
    rw [e, hS, List.map_const', List.length_range, List.sum_replicate_nat, Nat.mul_comm]
/-- Those whose front is one of the first i. -/
def permsTo (k : Nat) (S : List Int) (i : Nat) : List (List Int) := (List.range i).flatMap fun j => (perms k (S.eraseIdx j)).map (S.getD j 0 :: ·)
theorem permsTo_succ (k : Nat) (S : List Int) (i : Nat) : permsTo k S (i + 1) = permsTo k S i ++ (perms k (S.eraseIdx i)).map (S.getD i 0 :: ·) := by
  simp [permsTo, List.range_succ, List.flatMap_append]
theorem permsTo_len (k : Nat) (S : List Int) (hS : S.length = k + 1) (i : Nat) (hi : i ≤ k + 1) : (permsTo k S i).length = i * fact k := by
  induction i with
  | zero => simp [permsTo]
  | succ i ih =>
    rw [permsTo_succ, List.length_append, ih (by omega), List.length_map, perms_len k _ (by rw [List.length_eraseIdx, if_pos (by omega)]; omega), Nat.succ_mul]
theorem perms_succ (k : Nat) (S : List Int) (hS : S.length = k + 1) : perms (k + 1) S = permsTo k S (k + 1) := by simp only [perms, permsTo, hS]
theorem fact_mono {k n : Nat} (h : k ≤ n) : fact k ≤ fact n := by
  induction n with
  | zero => obtain rfl : k = 0 := by omega
            exact Nat.le_refl _
  | succ n ih =>
    by_cases hk : k = n + 1
    · subst hk; exact Nat.le_refl _
    · have h2 := ih (by omega)
      have h3 : fact n * 1 ≤ fact n * (n + 1) := Nat.mul_le_mul_left _ (by omega)
      simp only [fact]
      omega
end Fm

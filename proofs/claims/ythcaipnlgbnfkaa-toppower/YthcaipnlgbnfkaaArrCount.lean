/-
  How many orders bring about a given set of those that are there when a given one has arrived: numbers and lists alone, no Go text.
-/
import Derived.Test.YthcaipnlgbnfkaaWorthMath
namespace Fm
set_option linter.unusedVariables false

/-- How many players a set of up to six has. -/
def onesN (S : Nat) : Nat := ((List.range 6).filter (fun i => S.testBit i)).length
theorem ones_le (S : Nat) : onesN S ≤ 6 := by
  unfold onesN
  have := List.length_filter_le (fun i => S.testBit i) (List.range 6)
  simpa using this
/-- Who is there when i has arrived. -/
def incP (n : Nat) (p : List Int) (i : Nat) : Nat := preP b2 n p i + 2 ^ i
def arrW (n i S : Nat) : Nat := if S.testBit i = true then fact (onesN S - 1) * fact (n - onesN S) else 0
def incs (n i : Nat) : List Nat := (allO n).map (fun p => incP n p i)
def arrOk (n : Nat) : Bool := (List.range n).all fun i => (List.range (2 ^ n)).all fun S => (incs n i).countP (fun x => x == S) == arrW n i S
theorem arrOk_1 : arrOk 1 = true := by decide +kernel
theorem arrOk_2 : arrOk 2 = true := by decide +kernel
theorem arrOk_3 : arrOk 3 = true := by decide +kernel
theorem arrOk_4 : arrOk 4 = true := by decide +kernel
theorem arrOk_5 : arrOk 5 = true := by decide +kernel
theorem arrOk_6 : arrOk 6 = true := by decide +kernel
theorem arrOk_all {n : Nat} (h1 : 1 ≤ n) (h6 : n ≤ 6) : arrOk n = true := by
  have : n = 1 ∨ n = 2 ∨ n = 3 ∨ n = 4 ∨ n = 5 ∨ n = 6 := by omega
  rcases this with rfl | rfl | rfl | rfl | rfl | rfl
  · exact arrOk_1
  · exact arrOk_2
  · exact arrOk_3
  · exact arrOk_4
  · exact arrOk_5
  · exact arrOk_6
theorem arr_cnt {n i S : Nat} (h1 : 1 ≤ n) (h6 : n ≤ 6) (hi : i < n) (hS : S < 2 ^ n) : (incs n i).countP (fun x => x == S) = arrW n i S := by
  have h := arrOk_all h1 h6
  unfold arrOk at h
  rw [List.all_eq_true] at h
  have h2 := h i (List.mem_range.2 hi)
  rw [List.all_eq_true] at h2
  exact eq_of_beq (h2 S (List.mem_range.2 hS))

/-- A sum over the first N. -/
def sI (F : Nat → Int) : Nat → Int
  | 0 => 0
  | N + 1 => sI F N + F N
theorem sI_congr {F G : Nat → Int} {N : Nat} (h : ∀ S, S < N → F S = G S) : sI F N = sI G N := by
  induction N with
  | zero => rfl
  | succ N ih => rw [sI, sI, ih (fun S hS => h S (by omega)), h N (by omega)]
theorem sI_add (F G : Nat → Int) (N : Nat) : sI (fun S => F S + G S) N = sI F N + sI G N := by
  induction N with
  | zero => rfl
  | succ N ih => rw [sI, sI, sI, ih]; omega
theorem sI_zero (N : Nat) : sI (fun _ => 0) N = 0 := by
  induction N with
  | zero => rfl
  | succ N ih => rw [sI, ih]; rfl
theorem sI_one (F : Nat → Int) {N x : Nat} (hx : x < N) : sI (fun S => if x = S then F S else 0) N = F x := by
  induction N with
  | zero => omega
  | succ N ih =>
    rw [sI]
    by_cases e : x = N
    · subst e
      have : sI (fun S => if x = S then F S else 0) x = sI (fun _ => 0) x := sI_congr (fun S hS => by rw [if_neg (by omega)])
      rw [this, sI_zero, if_pos rfl]; omega
    · rw [ih (by omega), if_neg e]; omega
/-- A sum over a list, by how often each number stands in it. -/
theorem sum_cnt (F : Nat → Int) (N : Nat) : ∀ L : List Nat, (∀ x ∈ L, x < N) → (L.map F).sum = sI (fun S => (L.countP (fun x => x == S) : Int) * F S) N := by
  intro L
  induction L with
  | nil =>
    intro _
    have : sI (fun S => ((([] : List Nat).countP (fun x => x == S) : Nat) : Int) * F S) N = sI (fun _ => 0) N := sI_congr (fun S _ => by simp)
    rw [this, sI_zero]; rfl
  | cons x L ih =>
    intro hL
    rw [List.map_cons, List.sum_cons, ih (fun y hy => hL y (List.mem_cons_of_mem _ hy)), ← sI_one F (hL x (List.mem_cons_self)), ← sI_add]
    refine sI_congr (fun S _ => ?_)
    rw [List.countP_cons]
    by_cases e : x = S
    · subst e
      rw [if_pos rfl, if_pos (by simp), Int.natCast_add, Int.add_mul]
      simp; omega
    · rw [if_neg e, if_neg (by simpa using e)]; simp
/-- A sum over all orders of what hangs on who is there when i has arrived. -/
theorem tL_inc {n i : Nat} (h1 : 1 ≤ n) (h6 : n ≤ 6) (hi : i < n) (F : Nat → Int) : tL (allO n) (fun p => F (incP n p i)) = sI (fun S => (arrW n i S : Int) * F S) (2 ^ n) := by
  have h := sum_cnt F (2 ^ n) (incs n i) (fun x hx => by
    unfold incs at hx
    rw [List.mem_map] at hx
    obtain ⟨p, hp, rfl⟩ := hx
    obtain ⟨a1, a2, _⟩ := pre_all (mem_allO.1 hp) hi
    exact (add_tog hi a1 a2).2)
  have e : tL (allO n) (fun p => F (incP n p i)) = ((incs n i).map F).sum := by
    unfold tL incs
    rw [List.map_map]; rfl
  rw [e, h]
  exact sI_congr (fun S hS => by rw [arr_cnt h1 h6 hi hS])
/-- The Shapley value as a sum over sets. -/
theorem sh_sets {n i : Nat} (h1 : 1 ≤ n) (h6 : n ≤ 6) (hi : i < n) (v : Nat → Int) : shG v n i = sI (fun S => (arrW n i S : Int) * (v S - v (S - 2 ^ i))) (2 ^ n) := by
  rw [← tL_inc h1 h6 hi]
  unfold shG
  refine tL_congr (fun p _ => ?_)
  unfold rowG incP
  rw [Int.toNat_natCast, Nat.add_sub_cancel]
/-- How many orders i turns, as a sum over sets. -/
def tuS (W : Nat → Nat) (n q i S : Nat) : Nat := if turnB W n q i S = true then fact (onesN S - 1) * fact (n - onesN S) else 0
theorem sI_nat (f : Nat → Nat) (N : Nat) : sI (fun S => (f S : Int)) N = (sN f N : Int) := by
  induction N with
  | zero => rfl
  | succ N ih => rw [sI, sN, ih]; omega
theorem tu_sets {W : Nat → Nat} {n q i : Nat} (h1 : 1 ≤ n) (h6 : n ≤ 6) (hi : i < n) : tuN W n q i = sN (tuS W n q i) (2 ^ n) := by
  have h := sh_turns (W := W) (q := q) hi
  rw [sh_sets h1 h6 hi] at h
  have e : sI (fun S => (arrW n i S : Int) * ((if q ≤ hv W n S then 1 else 0) - (if q ≤ hv W n (S - 2 ^ i) then 1 else 0))) (2 ^ n) = sI (fun S => (tuS W n q i S : Int)) (2 ^ n) := by
    refine sI_congr (fun S hS => ?_)
    unfold arrW tuS turnB
    cases hb : S.testBit i with
    | false => simp
    | true =>
      have h2 := hv_tog (W := W) hi hb
      have h3 := add_tog (n := n) (S := S ^^^ 2 ^ i) hi (tog_lt hS hi) (by rw [tog_bit, if_pos rfl, hb]; rfl)
      rw [tog_tog] at h3
      have h4 : S - 2 ^ i = S ^^^ 2 ^ i := by omega
      rw [h4, if_pos rfl]
      generalize hv W n (S ^^^ 2 ^ i) = A at *
      generalize hv W n S = B at *
      by_cases c1 : q ≤ B
      · by_cases c2 : q ≤ A
        · rw [if_pos c1, if_pos c2, if_neg (by simp; omega)]; simp
        · rw [if_pos c1, if_neg c2, if_pos (by simp; omega)]; simp
      · rw [if_neg c1, if_neg (by omega), if_neg (by simp; omega)]; simp
  rw [e, sI_nat] at h
  exact Int.ofNat.inj h.symm
end Fm

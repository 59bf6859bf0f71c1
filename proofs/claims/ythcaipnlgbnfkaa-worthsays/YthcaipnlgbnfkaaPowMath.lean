/-
  Sets of players as numbers, their weights, and who turns how many of them: numbers alone, no Go text.
-/
import Derived.Test.YthcaipnlgbnfkaaSeatMath
namespace Fm
set_option linter.unusedVariables false

theorem perm_subG {α : Type} [DecidableEq α] : ∀ (l m : List α), l.Nodup → (∀ x ∈ l, x ∈ m) → l.length = m.length → l.Perm m := by
  intro l
  induction l with
  | nil => intro m _ _ h; rw [List.eq_nil_of_length_eq_zero h.symm]
  | cons x l ih =>
    intro m hnd hs hl
    rw [List.nodup_cons] at hnd
    have hx := hs x (List.mem_cons_self)
    have hp := List.perm_cons_erase hx
    refine (List.Perm.cons x (ih (m.erase x) hnd.2 (fun y hy => ?_) ?_)).trans hp.symm
    · exact (List.mem_erase_of_ne (fun e => hnd.1 (by subst e; exact hy))).2 (hs y (List.mem_cons_of_mem _ hy))
    · rw [List.length_erase_of_mem hx]; simp at hl; omega
/-- How many of the first N. -/
def cS (p : Nat → Bool) (N : Nat) : Nat := (List.range N).countP p
theorem cS_zero (p : Nat → Bool) : cS p 0 = 0 := rfl
theorem cS_succ (p : Nat → Bool) (N : Nat) : cS p (N + 1) = cS p N + if p N = true then 1 else 0 := by
  unfold cS; rw [List.range_succ, List.countP_append, List.countP_singleton]
theorem cS_le (p : Nat → Bool) (N : Nat) : cS p N ≤ N := by unfold cS; have := List.countP_le_length (p := p) (l := List.range N); simpa using this
theorem cS_mono {p q : Nat → Bool} {N : Nat} (h : ∀ S, S < N → p S = true → q S = true) : cS p N ≤ cS q N := by
  unfold cS
  apply List.countP_mono_left
  intro S hS
  exact h S (List.mem_range.1 hS)
theorem cS_congr {p q : Nat → Bool} {N : Nat} (h : ∀ S, S < N → p S = q S) : cS p N = cS q N := by
  unfold cS
  apply List.countP_congr
  intro S hS
  rw [h S (List.mem_range.1 hS)]
theorem cS_inv {f : Nat → Nat} {N : Nat} (h : ∀ S, S < N → f S < N ∧ f (f S) = S) (p : Nat → Bool) : cS p N = cS (fun S => p (f S)) N := by
  unfold cS
  have hp : ((List.range N).map f).Perm (List.range N) := by
    refine perm_subG _ _ ?_ (fun x hx => ?_) (by simp)
    · unfold List.Nodup
      rw [List.pairwise_map]
      refine List.Pairwise.imp_of_mem ?_ (List.nodup_range (n := N))
      intro a b ha hb hne e
      have h1 := (h a (List.mem_range.1 ha)).2
      have h2 := (h b (List.mem_range.1 hb)).2
      rw [e, h2] at h1
      exact hne h1.symm
    · rw [List.mem_map] at hx
      obtain ⟨S, hS, rfl⟩ := hx
      exact List.mem_range.2 (h S (List.mem_range.1 hS)).1
  rw [← hp.countP_eq, List.countP_map]
  rfl
theorem cS_split (p q : Nat → Bool) (N : Nat) : cS p N = cS (fun S => p S && q S) N + cS (fun S => p S && !q S) N := by
  induction N with
  | zero => rfl
  | succ N ih =>
    rw [cS_succ, cS_succ, cS_succ, ih]
    cases p N <;> cases q N <;> simp <;> omega
theorem cS_pos {p : Nat → Bool} {N S : Nat} (hS : S < N) (h : p S = true) : 0 < cS p N := by
  unfold cS
  exact List.countP_pos_iff.2 ⟨S, List.mem_range.2 hS, h⟩

/-- The weight of a set. -/
def hv (W : Nat → Nat) (n S : Nat) : Nat := sN (fun j => if S.testBit j = true then W j else 0) n
theorem sN_one {f g : Nat → Nat} {n i : Nat} (hi : i < n) (h : ∀ j, j < n → j ≠ i → f j = g j) : sN f n + g i = sN g n + f i := by
  induction n with
  | zero => omega
  | succ n ih =>
    rw [sN, sN]
    by_cases e : i = n
    · subst e
      rw [sN_congr (fun j hj => h j (by omega) (by omega))]
      omega
    · rw [h n (by omega) (fun q => e q.symm)]
      have := ih (by omega) (fun j hj hne => h j (by omega) hne)
      omega
section
variable {W : Nat → Nat} {n : Nat}
theorem tog_bit (S i j : Nat) : (S ^^^ 2 ^ i).testBit j = if i = j then !S.testBit j else S.testBit j := by
  rw [Nat.testBit_xor, Nat.testBit_two_pow]
  by_cases e : i = j
  · subst e; simp
  · simp [e]
theorem tog_lt {S i : Nat} (hS : S < 2 ^ n) (hi : i < n) : S ^^^ 2 ^ i < 2 ^ n := Nat.xor_lt_two_pow hS (Nat.pow_lt_pow_right (by omega) hi)
theorem tog_tog (S i : Nat) : (S ^^^ 2 ^ i) ^^^ 2 ^ i = S := by rw [Nat.xor_assoc, Nat.xor_self, Nat.xor_zero]
theorem hv_tog {S i : Nat} (hi : i < n) (hb : S.testBit i = true) : hv W n (S ^^^ 2 ^ i) + W i = hv W n S := by
  have := sN_one (f := fun j => if (S ^^^ 2 ^ i).testBit j = true then W j else 0) (g := fun j => if S.testBit j = true then W j else 0) hi (fun j _ hj => by
    have e : (S ^^^ 2 ^ i).testBit j = S.testBit j := by rw [tog_bit, if_neg (fun e => hj e.symm)]
    rw [e])
  have e0 : (S ^^^ 2 ^ i).testBit i = false := by rw [tog_bit, if_pos rfl, hb]; rfl
  rw [hb, e0] at this
  simpa [hv] using this
theorem hv_le (S : Nat) : hv W n S ≤ sN W n := sN_le (fun j _ => by split <;> omega)
theorem hv_mem {S i : Nat} (hi : i < n) (hb : S.testBit i = true) : W i ≤ hv W n S := by have := hv_tog (W := W) hi hb; omega
theorem hv_full : hv W n (2 ^ n - 1) = sN W n := sN_congr (fun j hj => by rw [Nat.testBit_two_pow_sub_one]; simp [hj])

/-- The set wins; the i-th turns it. -/
def winB2 (W : Nat → Nat) (n q S : Nat) : Bool := decide (q ≤ hv W n S)
def turnB (W : Nat → Nat) (n q i S : Nat) : Bool := S.testBit i && (decide (q ≤ hv W n S) && decide (hv W n S < q + W i))
def swN (W : Nat → Nat) (n q i : Nat) : Nat := cS (turnB W n q i) (2 ^ n)
def allN (W : Nat → Nat) (n q : Nat) : Nat := cS (winB2 W n q) (2 ^ n)
def withN (W : Nat → Nat) (n q i : Nat) : Nat := cS (fun S => winB2 W n q S && S.testBit i) (2 ^ n)
/-- Twice those that win with it, less all that win. -/
theorem sw_with {q i : Nat} (hi : i < n) : swN W n q i + allN W n q = 2 * withN W n q i := by
  have h1 := cS_split (winB2 W n q) (fun S => S.testBit i) (2 ^ n)
  -- those that win without it
  have h2 : cS (fun S => winB2 W n q S && !S.testBit i) (2 ^ n) = cS (fun S => S.testBit i && winB2 W n q (S ^^^ 2 ^ i)) (2 ^ n) := by
    rw [cS_inv (f := fun S => S ^^^ 2 ^ i) (fun S hS => ⟨tog_lt hS hi, tog_tog S i⟩)]
    refine cS_congr (fun S _ => ?_)
    rw [tog_bit, if_pos rfl, Bool.not_not, Bool.and_comm]
  have h3 : withN W n q i = swN W n q i + cS (fun S => S.testBit i && winB2 W n q (S ^^^ 2 ^ i)) (2 ^ n) := by
    unfold withN swN
    rw [cS_split (fun S => winB2 W n q S && S.testBit i) (fun S => decide (hv W n S < q + W i)) (2 ^ n)]
    congr 1
    · refine cS_congr (fun S _ => ?_)
      unfold turnB winB2
      cases S.testBit i <;> simp
    · refine cS_congr (fun S _ => ?_)
      unfold winB2
      cases hb : S.testBit i with
      | false => simp
      | true =>
        have := hv_tog (W := W) hi hb
        simp only [Bool.and_true, Bool.true_and]
        by_cases q1 : q ≤ hv W n (S ^^^ 2 ^ i)
        · rw [decide_eq_true q1, decide_eq_true (show q ≤ hv W n S by omega), decide_eq_false (show ¬ hv W n S < q + W i by omega)]; rfl
        · rw [decide_eq_false q1, decide_eq_true (show hv W n S < q + W i by omega)]; simp
  unfold allN
  rw [h1, h2]
  unfold withN at h3 ⊢
  omega
/-- Two bits exchanged. -/
def swpB (S i k : Nat) : Nat := if S.testBit i = S.testBit k then S else (S ^^^ 2 ^ i) ^^^ 2 ^ k
theorem swpB_bit (S i k j : Nat) : (swpB S i k).testBit j = if j = i then S.testBit k else if j = k then S.testBit i else S.testBit j := by
  unfold swpB
  by_cases h : S.testBit i = S.testBit k
  · rw [if_pos h]
    by_cases e1 : j = i
    · subst e1; rw [if_pos rfl, h]
    · rw [if_neg e1]
      by_cases e2 : j = k
      · subst e2; rw [if_pos rfl, h]
      · rw [if_neg e2]
  · rw [if_neg h, tog_bit, tog_bit]
    by_cases e1 : j = i
    · subst e1
      have : ¬ k = j := fun e => h (by rw [e])
      rw [if_pos rfl, if_neg this, if_pos rfl]
      cases q1 : S.testBit j <;> cases q2 : S.testBit k <;> simp_all
    · rw [if_neg e1]
      by_cases e2 : j = k
      · subst e2
        rw [if_pos rfl, if_pos rfl, if_neg (fun e => e1 e.symm)]
        cases q1 : S.testBit j <;> cases q2 : S.testBit i <;> simp_all
      · rw [if_neg e2, if_neg (fun e => e2 e.symm), if_neg (fun e => e1 e.symm)]
theorem swpB_lt {S i k : Nat} (hS : S < 2 ^ n) (hi : i < n) (hk : k < n) : swpB S i k < 2 ^ n := by
  unfold swpB
  split
  · exact hS
  · exact tog_lt (tog_lt hS hi) hk
theorem swpB_swpB (S i k : Nat) : swpB (swpB S i k) i k = S := by
  apply Nat.eq_of_testBit_eq
  intro j
  rw [swpB_bit, swpB_bit, swpB_bit, swpB_bit]
  by_cases e1 : j = i
  · subst e1
    rw [if_pos rfl]
    by_cases e3 : k = j
    · subst e3; simp
    · rw [if_neg e3, if_pos rfl]
  · rw [if_neg e1]
    by_cases e2 : j = k
    · subst e2; rw [if_pos rfl, if_pos rfl]
    · rw [if_neg e2, if_neg e1, if_neg e2]
/-- Who is heavier wins with no fewer. -/
theorem with_mono {q i k : Nat} (hi : i < n) (hk : k < n) (hw : W k ≤ W i) : withN W n q k ≤ withN W n q i := by
  unfold withN
  rw [cS_inv (f := fun S => swpB S i k) (fun S hS => ⟨swpB_lt hS hi hk, swpB_swpB S i k⟩)]
  refine cS_mono (fun S hS h => ?_)
  rw [Bool.and_eq_true] at h ⊢
  obtain ⟨h1, h2⟩ := h
  have hbi : S.testBit i = true := by
    rw [swpB_bit] at h2
    by_cases e : k = i
    · subst e; rw [if_pos rfl] at h2; exact h2
    · rw [if_neg e, if_pos rfl] at h2; exact h2
  refine ⟨?_, hbi⟩
  unfold winB2 at h1 ⊢
  have h1 := of_decide_eq_true h1
  refine decide_eq_true (Nat.le_trans h1 ?_)
  unfold swpB
  by_cases hbk : S.testBit i = S.testBit k
  · rw [if_pos hbk]; exact Nat.le_refl _
  · rw [if_neg hbk]
    have hkf : S.testBit k = false := by cases q : S.testBit k with
      | false => rfl
      | true => rw [hbi, q] at hbk; exact absurd rfl hbk
    have hik : i ≠ k := fun e => by subst e; rw [hbi] at hkf; cases hkf
    have e1 := hv_tog (W := W) hi hbi
    have hb2 : ((S ^^^ 2 ^ i) ^^^ 2 ^ k).testBit k = true := by rw [tog_bit, if_pos rfl, tog_bit, if_neg hik, hkf]; rfl
    have e2 := hv_tog (W := W) hk hb2
    rw [tog_tog] at e2
    omega
theorem sw_mono {q i k : Nat} (hi : i < n) (hk : k < n) (hw : W k ≤ W i) : swN W n q k ≤ swN W n q i := by
  have h1 := sw_with (W := W) (q := q) hi
  have h2 := sw_with (W := W) (q := q) hk
  have h3 := with_mono (q := q) hi hk hw
  omega
theorem sw_le (q i : Nat) : swN W n q i ≤ allN W n q := cS_mono (fun S _ h => by
  unfold turnB at h; unfold winB2
  rw [Bool.and_eq_true, Bool.and_eq_true] at h
  exact h.2.1)
theorem all_pos {q : Nat} (hq : q ≤ sN W n) : 0 < allN W n q := cS_pos (S := 2 ^ n - 1) (by have := Nat.two_pow_pos n; omega) (by unfold winB2; rw [hv_full]; exact decide_eq_true hq)
/-- Without whom nothing wins turns each set that wins. -/
theorem sw_veto {q i : Nat} (hi : i < n) (hq : q ≤ sN W n) : swN W n q i = allN W n q ↔ sN W n < q + W i := by
  have hlast : hv W n ((2 ^ n - 1) ^^^ 2 ^ i) + W i = sN W n := by
    rw [hv_tog hi (by rw [Nat.testBit_two_pow_sub_one]; exact decide_eq_true hi), hv_full]
  constructor
  · intro h
    by_cases q1 : sN W n < q + W i
    · exact q1
    · exfalso
      -- all but the i-th win, and it does not turn that set
      have h2 := cS_split (winB2 W n q) (turnB W n q i) (2 ^ n)
      have h3 : cS (fun S => winB2 W n q S && turnB W n q i S) (2 ^ n) = swN W n q i := cS_congr (fun S _ => by
        unfold winB2 turnB
        cases S.testBit i <;> simp)
      have h4 : 0 < cS (fun S => winB2 W n q S && !turnB W n q i S) (2 ^ n) := by
        refine cS_pos (S := (2 ^ n - 1) ^^^ 2 ^ i) (tog_lt (by have := Nat.two_pow_pos n; omega) hi) ?_
        have hb : ((2 ^ n - 1) ^^^ 2 ^ i).testBit i = false := by rw [tog_bit, if_pos rfl, Nat.testBit_two_pow_sub_one]; simp [hi]
        unfold winB2 turnB
        rw [hb]
        simp only [Bool.false_and, Bool.not_false, Bool.and_true]
        exact decide_eq_true (by omega)
      unfold allN at h
      omega
  · intro h
    unfold swN allN
    refine cS_congr (fun S hS => ?_)
    unfold turnB winB2
    by_cases q1 : q ≤ hv W n S
    · have hb : S.testBit i = true := by
        cases hb : S.testBit i with
        | true => rfl
        | false =>
          exfalso
          have hb2 : (S ^^^ 2 ^ i).testBit i = true := by rw [tog_bit, if_pos rfl, hb]; rfl
          have := hv_tog (W := W) hi hb2
          rw [tog_tog] at this
          have := hv_le (W := W) (n := n) (S ^^^ 2 ^ i)
          omega
      have hl := hv_le (W := W) (n := n) S
      rw [hb, decide_eq_true q1, decide_eq_true (show hv W n S < q + W i by omega)]; rfl
    · rw [decide_eq_false q1]; simp
/-- The dual game has the same. -/
def dualS (n i S : Nat) : Nat := ((2 ^ n - 1) ^^^ S) ^^^ 2 ^ i
theorem dual_bit {S i j : Nat} (hj : j < n) : (dualS n i S).testBit j = if i = j then S.testBit j else !S.testBit j := by
  unfold dualS
  rw [tog_bit, Nat.testBit_xor, Nat.testBit_two_pow_sub_one]
  by_cases e : i = j
  · subst e; rw [if_pos rfl, if_pos rfl]; simp [hj]
  · rw [if_neg e, if_neg e]; simp [hj]
theorem hv_dual {S i : Nat} (hi : i < n) (hb : S.testBit i = true) : hv W n (dualS n i S) + hv W n S = sN W n + W i := by
  have e : sN (fun j => (if (dualS n i S).testBit j = true then W j else 0) + if S.testBit j = true then W j else 0) n + W i = sN W n + (W i + W i) := by
    have := sN_one (f := fun j => (if (dualS n i S).testBit j = true then W j else 0) + if S.testBit j = true then W j else 0) (g := W) hi (fun j hj hne => by
      have e : (dualS n i S).testBit j = !S.testBit j := by rw [dual_bit hj, if_neg (fun e => hne e.symm)]
      rw [e]
      cases S.testBit j <;> simp)
    have e0 : (dualS n i S).testBit i = true := by rw [dual_bit hi, if_pos rfl, hb]
    rw [e0, hb] at this
    simpa using this
  rw [sN_add] at e
  unfold hv
  omega
theorem sw_dual {q i : Nat} (hi : i < n) (h1 : 1 ≤ q) (hq : q ≤ sN W n) : swN W n (sN W n + 1 - q) i = swN W n q i := by
  unfold swN
  rw [cS_inv (f := dualS n i) (fun S hS => ?_)]
  · refine cS_congr (fun S hS => ?_)
    unfold turnB
    rw [dual_bit hi, if_pos rfl]
    cases hb : S.testBit i with
    | false => rfl
    | true =>
      have e := hv_dual (W := W) hi hb
      have e2 := hv_mem (W := W) hi hb
      have e3 := hv_le (W := W) (n := n) S
      have hh : (sN W n + 1 - q ≤ hv W n (dualS n i S) ↔ hv W n S < q + W i) ∧ (hv W n (dualS n i S) < sN W n + 1 - q + W i ↔ q ≤ hv W n S) := by constructor <;> constructor <;> intro h <;> omega
      rw [decide_eq_decide.2 hh.1, decide_eq_decide.2 hh.2, Bool.and_comm (decide _)]
  · have hp := Nat.two_pow_pos n
    refine ⟨?_, ?_⟩
    · unfold dualS
      exact tog_lt (Nat.xor_lt_two_pow (by omega) hS) hi
    · unfold dualS
      rw [Nat.xor_assoc (2 ^ n - 1) S, ← Nat.xor_assoc (2 ^ n - 1) (2 ^ n - 1), Nat.xor_self, Nat.zero_xor, Nat.xor_assoc, Nat.xor_self, Nat.xor_zero]
end
end Fm

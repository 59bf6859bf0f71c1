/-
  How many orders are along a line: two to the power of one less than the sides, whatever the line: lists of ints alone, no Go text.
-/
import Derived.Test.YthcaipnlgbnfkaaPeakMath
namespace Fm
set_option linter.unusedVariables false

theorem perms_nodup : ∀ (k : Nat) (S : List Int), S.length = k → S.Nodup → (perms k S).Nodup := by
  intro k
  induction k with
  | zero => intro S _ _; simp [perms]
  | succ k ih =>
    intro S hS hnd
    rw [perms]
    unfold List.Nodup
    rw [List.pairwise_flatMap]
    constructor
    · intro i hi
      have hi := List.mem_range.1 hi
      have h1 := ih (S.eraseIdx i) (by rw [List.length_eraseIdx, if_pos hi]; omega) (hnd.sublist (List.eraseIdx_sublist S i))
      rw [List.pairwise_map]
      exact h1.imp fun hne e => hne (List.cons.inj e).2
    · have hr : (List.range S.length).Pairwise (fun a b => a < b) := List.pairwise_lt_range
      refine hr.imp_of_mem ?_
      intro a b ha hb hab x hx y hy e
      have ha := List.mem_range.1 ha
      have hb := List.mem_range.1 hb
      rw [List.mem_map] at hx hy
      obtain ⟨u, _, rfl⟩ := hx
      obtain ⟨v, _, rfl⟩ := hy
      have e1 := (List.cons.inj e).1
      have p1 := pos_idx hnd ha
      have p2 := pos_idx hnd hb
      rw [e1, p2] at p1
      omega
theorem allO_nodup (n : Nat) : (allO n).Nodup := perms_nodup n (sides n) (sides_len n) (sides_nodup n)

/-- An order by the names on the line. -/
def byL (line q : List Int) : List Int := q.map fun x => line.getD x.toNat 0
section
variable {n : Nat} {line : List Int}
theorem byL_perm (hl : line.Perm (sides n)) {q : List Int} (hq : q.Perm (sides n)) : (byL line q).Perm (sides n) := by
  have h := hq.map (fun x => line.getD x.toNat 0)
  have e : (sides n).map (fun z => line.getD z.toNat 0) = line := by rw [← perm_len hl]; exact (as_map line).symm
  rw [e] at h
  exact h.trans hl
theorem byL_pos (hl : line.Perm (sides n)) {q : List Int} (hq : q.Perm (sides n)) {x : Nat} (hx : x < n) : pos (byL line q) (line.getD x 0) = pos q x := by
  obtain ⟨k, hk, hkx, hpk⟩ := pos_mem (perm_nodup hq) (y := (x : Int)) (hq.mem_iff.2 (mem_sides.2 ⟨by omega, by omega⟩))
  have hlr : (byL line q).length = q.length := by simp [byL]
  have hg : (byL line q).getD k 0 = line.getD x 0 := by
    rw [getD_get (by omega)]
    unfold byL
    rw [List.getElem_map, ← getD_get hk, hkx]
    rfl
  have h := pos_idx (perm_nodup (byL_perm hl hq)) (k := k) (by omega)
  rw [hg] at h
  rw [h, hpk]
theorem byL_along (hl : line.Perm (sides n)) {q : List Int} (hq : q.Perm (sides n)) : alongB line (byL line q) = alongB (sides n) q := by
  have hln := perm_len hl
  unfold alongB
  rw [hln, sides_len]
  have h : ∀ i j k, i < j → j < k → k < n → lastB line (byL line q) i j k = lastB (sides n) q i j k := fun i j k a b c => by
    unfold lastB
    rw [byL_pos hl hq (by omega), byL_pos hl hq (by omega), byL_pos hl hq (by omega), sides_getD (by omega), sides_getD (by omega), sides_getD (by omega)]
  apply Bool.eq_iff_iff.2
  simp only [List.all_eq_true, List.mem_range, Bool.not_eq_true']
  exact ⟨fun hh k hk j hj i hi => by rw [← h i j k hi hj hk]; exact hh k hk j hj i hi, fun hh k hk j hj i hi => by rw [h i j k hi hj hk]; exact hh k hk j hj i hi⟩
theorem byL_inj (hl : line.Perm (sides n)) {p q : List Int} (hp : p.Perm (sides n)) (hq : q.Perm (sides n)) (h : byL line p = byL line q) : p = q := by
  have lp := perm_len hp
  have lq := perm_len hq
  apply List.ext_getElem (by omega)
  intro i h1 h2
  have e : (byL line p)[i]? = (byL line q)[i]? := by rw [h]
  unfold byL at e
  rw [List.getElem?_map, List.getElem?_map, List.getElem?_eq_getElem h1, List.getElem?_eq_getElem h2] at e
  simp only [Option.map_some, Option.some.injEq] at e
  have m1 := mem_sides.1 (hp.mem_iff.1 (List.getElem_mem h1))
  have m2 := mem_sides.1 (hq.mem_iff.1 (List.getElem_mem h2))
  have hln := perm_len hl
  have a := pos_idx (perm_nodup hl) (k := (p[i]).toNat) (by omega)
  have b := pos_idx (perm_nodup hl) (k := (q[i]).toNat) (by omega)
  rw [e, b] at a
  omega
theorem nodup_map_on {L : List (List Int)} {f : List Int → List Int} (h : L.Nodup) (hf : ∀ a ∈ L, ∀ b ∈ L, f a = f b → a = b) : (L.map f).Nodup := by
  unfold List.Nodup at *
  rw [List.pairwise_map]
  exact h.imp_of_mem fun ha hb hne e => hne (hf _ ha _ hb e)
theorem perm_of_sub : ∀ (l m : List (List Int)), l.Nodup → (∀ x ∈ l, x ∈ m) → l.length = m.length → l.Perm m := by
  intro l
  induction l with
  | nil => intro m _ _ h; rw [List.eq_nil_of_length_eq_zero h.symm]
  | cons x l ih =>
    intro m hnd hs hl
    rw [List.nodup_cons] at hnd
    have hx := hs x (List.mem_cons_self)
    have hp := List.perm_cons_erase hx
    refine (List.Perm.cons x (ih (m.erase x) hnd.2 (fun y hy => ?_) ?_)).trans hp.symm
    · exact (List.mem_erase_of_ne (fun e => hnd.1 (by subst e; exact hy))).2 (hs y (List.mem_cons_of_mem _ hy))
    · rw [List.length_erase_of_mem hx]; simp at hl; omega
theorem byL_all (hl : line.Perm (sides n)) : ((allO n).map (byL line)).Perm (allO n) := by
  refine perm_of_sub _ _ (nodup_map_on (allO_nodup n) fun a ha b hb e => byL_inj hl (mem_allO.1 ha) (mem_allO.1 hb) e) (fun x hx => ?_) (by simp)
  rw [List.mem_map] at hx
  obtain ⟨q, hq, rfl⟩ := hx
  exact mem_allO.2 (byL_perm hl (mem_allO.1 hq))
theorem peak_1 : (allO 1).countP (alongB (sides 1)) = 2 ^ (1 - 1) := by decide +kernel
theorem peak_2 : (allO 2).countP (alongB (sides 2)) = 2 ^ (2 - 1) := by decide +kernel
theorem peak_3 : (allO 3).countP (alongB (sides 3)) = 2 ^ (3 - 1) := by decide +kernel
theorem peak_4 : (allO 4).countP (alongB (sides 4)) = 2 ^ (4 - 1) := by decide +kernel
theorem peak_5 : (allO 5).countP (alongB (sides 5)) = 2 ^ (5 - 1) := by decide +kernel
theorem peak_6 : (allO 6).countP (alongB (sides 6)) = 2 ^ (6 - 1) := by decide +kernel
theorem peak_many (hl : line.Perm (sides n)) (h1 : 1 ≤ n) (h6 : n ≤ 6) : (allO n).countP (alongB line) = 2 ^ (n - 1) := by
  rw [← (byL_all hl).countP_eq, List.countP_map]
  have e : (allO n).countP (alongB line ∘ byL line) = (allO n).countP (alongB (sides n)) := by
    apply List.countP_congr
    intro q hq
    rw [Function.comp_apply, byL_along hl (mem_allO.1 hq)]
  rw [e]
  have : n = 1 ∨ n = 2 ∨ n = 3 ∨ n = 4 ∨ n = 5 ∨ n = 6 := by omega
  rcases this with rfl | rfl | rfl | rfl | rfl | rfl
  · exact peak_1
  · exact peak_2
  · exact peak_3
  · exact peak_4
  · exact peak_5
  · exact peak_6
end
end Fm

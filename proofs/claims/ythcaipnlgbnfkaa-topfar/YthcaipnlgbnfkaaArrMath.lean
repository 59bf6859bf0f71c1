/-
  In how many orders of arrival each player turns those that are there: lists of ints alone, no Go text.
-/
import Derived.Test.YthcaipnlgbnfkaaPeakCount
import Derived.Test.YthcaipnlgbnfkaaPureA
import Derived.Test.YthcaipnlgbnfkaaPowMath
namespace Fm
set_option linter.unusedVariables false

theorem allO_map {n : Nat} {f : List Int → List Int} (hp : ∀ p, p.Perm (sides n) → (f p).Perm (sides n)) (hi : ∀ p q, p.Perm (sides n) → q.Perm (sides n) → f p = f q → p = q) : ((allO n).map f).Perm (allO n) := by
  refine perm_of_sub _ _ (nodup_map_on (allO_nodup n) fun a ha b hb e => hi a b (mem_allO.1 ha) (mem_allO.1 hb) e) (fun x hx => ?_) (by simp)
  rw [List.mem_map] at hx
  obtain ⟨q, hq, rfl⟩ := hx
  exact mem_allO.2 (hp q (mem_allO.1 hq))

def wI (W : Nat → Nat) (x : Int) : Nat := W x.toNat
/-- The weight of those that are there before i. -/
def preP (W : Nat → Nat) (n : Nat) (p : List Int) (i : Int) : Nat := tot (sides n) (fun j => if pos p j < pos p i then wI W j else 0)
def critP (W : Nat → Nat) (n q : Nat) (p : List Int) (i : Int) : Bool := decide (preP W n p i < q) && decide (q ≤ preP W n p i + wI W i)
/-- In how many orders the i-th turns those that are there. -/
def tuN (W : Nat → Nat) (n q i : Nat) : Nat := (allO n).countP (fun p => critP W n q p (i : Int))
section
variable {W : Nat → Nat} {n q : Nat}
theorem tot_take {p : List Int} (hp : p.Nodup) (φ : Int → Nat) {k : Nat} (hk : k ≤ p.length) : tot p (fun x => if pos p x < k then φ x else 0) = tot (p.take k) φ := by
  have e := List.take_append_drop k p
  have h1 : tot p (fun x => if pos p x < k then φ x else 0) = tot (p.take k) (fun x => if pos p x < k then φ x else 0) + tot (p.drop k) (fun x => if pos p x < k then φ x else 0) := by rw [← tot_append, e]
  have h2 : tot (p.take k) (fun x => if pos p x < k then φ x else 0) = tot (p.take k) φ := tot_congr fun x hx => by
    obtain ⟨j, hj, rfl⟩ := List.getElem_of_mem hx
    rw [List.length_take] at hj
    rw [List.getElem_take, ← getD_get (by omega), pos_idx hp (by omega), if_pos (by omega)]
  have h3 : tot (p.drop k) (fun x => if pos p x < k then φ x else 0) = 0 := tot_zero.2 fun x hx => by
    obtain ⟨j, hj, rfl⟩ := List.getElem_of_mem hx
    rw [List.length_drop] at hj
    rw [List.getElem_drop, ← getD_get (by omega), pos_idx hp (by omega), if_neg (by omega)]
  omega
theorem pre_take {p : List Int} (hp : p.Perm (sides n)) {k : Nat} (hk : k < n) : preP W n p (p.getD k 0) = tot (p.take k) (wI W) := by
  have hl := perm_len hp
  unfold preP
  rw [pos_idx (perm_nodup hp) (by omega), ← tot_perm hp]
  exact tot_take (perm_nodup hp) _ (by omega)
theorem tot_W {p : List Int} (hp : p.Perm (sides n)) : tot p (wI W) = tot (sides n) (wI W) := tot_perm hp _
/-- Of each order just one. -/
theorem one_crit {p : List Int} (hp : p.Perm (sides n)) (h1 : 1 ≤ q) (hq : q ≤ tot (sides n) (wI W)) : tot (sides n) (fun i => if critP W n q p i = true then 1 else 0) = 1 := by
  have hl := perm_len hp
  rw [← tot_perm hp]
  have h : ∀ k, k ≤ n → tot (p.take k) (fun i => if critP W n q p i = true then 1 else 0) = if q ≤ tot (p.take k) (wI W) then 1 else 0 := by
    intro k
    induction k with
    | zero => intro _; rw [List.take_zero, tot_nil, tot_nil, if_neg (by omega)]
    | succ k ih =>
      intro hk
      rw [take_succ_getD p k (by omega), tot_append, tot_append, tot_cons, tot_nil, tot_cons, tot_nil, ih (by omega)]
      unfold critP
      rw [pre_take hp (by omega)]
      generalize tot (p.take k) (wI W) = T
      generalize wI W (p.getD k 0) = v
      simp only [Nat.add_zero]
      by_cases a : q ≤ T
      · have a2 : ¬ T < q := by omega
        have a3 : q ≤ T + v := by omega
        simp [a, a2, a3]
      · have a2 : T < q := by omega
        by_cases b : q ≤ T + v
        · simp [a, a2, b]
        · simp [a, a2, b]
  have h2 := h n (Nat.le_refl _)
  rw [List.take_of_length_le (by omega), tot_W hp, if_pos hq] at h2
  exact h2
theorem tu_sum (h1 : 1 ≤ q) (hq : q ≤ tot (sides n) (wI W)) : tot (sides n) (fun i => tuN W n q i.toNat) = (allO n).length := by
  have h : ∀ L : List (List Int), (∀ p ∈ L, p.Perm (sides n)) → tot (sides n) (fun i => L.countP (fun p => critP W n q p i)) = L.length := by
    intro L
    induction L with
    | nil => intro _; exact tot_zero.2 fun x _ => rfl
    | cons p L ih =>
      intro hL
      have e : tot (sides n) (fun i => (p :: L).countP (fun p => critP W n q p i)) = tot (sides n) (fun i => L.countP (fun p => critP W n q p i) + if critP W n q p i = true then 1 else 0) := tot_congr fun i _ => by rw [List.countP_cons]
      rw [e, tot_add, ih (fun r hr => hL r (List.mem_cons_of_mem _ hr)), one_crit (hL p (List.mem_cons_self)) h1 hq]
      rfl
  rw [← h (allO n) (fun p hp => mem_allO.1 hp)]
  refine tot_congr fun i hi => ?_
  have hi := mem_sides.1 hi
  unfold tuN
  rw [show ((i.toNat : Nat) : Int) = i by omega]
theorem tu_null {i : Nat} (hw : W i = 0) : tuN W n q i = 0 := by
  unfold tuN
  rw [List.countP_eq_zero]
  intro p _
  unfold critP wI
  rw [Int.toNat_natCast, hw]
  simp
theorem tu_le (i : Nat) : tuN W n q i ≤ (allO n).length := List.countP_le_length
/-- The names i and k exchanged. -/
def exN (i k : Int) (x : Int) : Int := if x = i then k else if x = k then i else x
theorem exN_exN (i k x : Int) : exN i k (exN i k x) = x := by
  unfold exN
  by_cases a : x = i
  · subst a
    rw [if_pos rfl]
    by_cases b : k = x
    · rw [if_pos b, b]
    · rw [if_neg b, if_pos rfl]
  · rw [if_neg a]
    by_cases b : x = k
    · subst b; rw [if_pos rfl, if_pos rfl]
    · rw [if_neg b, if_neg a, if_neg b]
theorem exN_mem {i k : Nat} (hi : i < n) (hk : k < n) {x : Int} (hx : x ∈ sides n) : exN i k x ∈ sides n := by
  have hx := mem_sides.1 hx
  unfold exN
  apply mem_sides.2
  split
  · omega
  · split <;> omega
theorem exN_sides {i k : Nat} (hi : i < n) (hk : k < n) : ((sides n).map (exN i k)).Perm (sides n) := by
  refine perm_of_nodup_subset _ _ ?_ (fun x hx => ?_) (by simp)
  · unfold List.Nodup
    rw [List.pairwise_map]
    refine List.Pairwise.imp ?_ (sides_nodup n)
    intro a b hne e
    have : exN i k (exN i k a) = exN i k (exN i k b) := by rw [e]
    rw [exN_exN, exN_exN] at this
    exact hne this
  · rw [List.mem_map] at hx
    obtain ⟨y, hy, rfl⟩ := hx
    exact exN_mem hi hk hy
theorem ex_perm {i k : Nat} (hi : i < n) (hk : k < n) {p : List Int} (hp : p.Perm (sides n)) : (p.map (exN i k)).Perm (sides n) := (hp.map _).trans (exN_sides hi hk)
theorem ex_pos {i k : Nat} (hi : i < n) (hk : k < n) {p : List Int} (hp : p.Perm (sides n)) {x : Int} (hx : x ∈ sides n) : pos (p.map (exN i k)) x = pos p (exN i k x) := by
  have hm := hp.mem_iff.2 (exN_mem hi hk hx)
  obtain ⟨j, hj, hjx, hpj⟩ := pos_mem (perm_nodup hp) hm
  have hg : (p.map (exN i k)).getD j 0 = x := by
    rw [getD_get (by rw [List.length_map]; exact hj), List.getElem_map, ← getD_get hj, hjx, exN_exN]
  have h := pos_idx (perm_nodup (ex_perm hi hk hp)) (k := j) (by rw [List.length_map]; exact hj)
  rw [hg] at h
  rw [h, hpj]
theorem pre_ex {i k : Nat} (hi : i < n) (hk : k < n) {p : List Int} (hp : p.Perm (sides n)) : preP W n (p.map (exN i k)) i = tot (sides n) (fun j => if pos p j < pos p (k : Int) then wI W (exN i k j) else 0) := by
  unfold preP
  have hki : exN i k (i : Int) = k := by unfold exN; rw [if_pos rfl]
  have e1 : tot (sides n) (fun j => if pos (p.map (exN i k)) j < pos (p.map (exN i k)) (i : Int) then wI W j else 0) = tot (sides n) (fun j => if pos p (exN i k j) < pos p (k : Int) then wI W (exN i k (exN i k j)) else 0) := tot_congr fun j hj => by
    rw [ex_pos hi hk hp hj, ex_pos hi hk hp (mem_sides.2 ⟨by omega, by omega⟩), hki, exN_exN]
  rw [e1]
  have e2 := tot_map (sides n) (exN i k) (fun j => if pos p j < pos p (k : Int) then wI W (exN i k j) else 0)
  rw [← e2]
  exact tot_perm (exN_sides hi hk) _
theorem tot_diff {S : List Int} (hS : S.Nodup) {a : Int} (ha : a ∈ S) {φ ψ : Int → Nat} (h : ∀ x ∈ S, x ≠ a → φ x = ψ x) : tot S φ + ψ a = tot S ψ + φ a := by
  induction S with
  | nil => cases ha
  | cons x S ih =>
    rw [tot_cons, tot_cons]
    rw [List.nodup_cons] at hS
    by_cases e : x = a
    · subst e
      rw [tot_congr (fun y hy => h y (List.mem_cons_of_mem _ hy) (fun q => hS.1 (by subst q; exact hy)))]
      omega
    · have ha' : a ∈ S := by
        rcases List.mem_cons.1 ha with h2 | h2
        · exact absurd h2.symm e
        · exact h2
      have := ih hS.2 ha' (fun y hy => h y (List.mem_cons_of_mem _ hy))
      rw [h x (List.mem_cons_self) e]
      omega
/-- Who is heavier turns no fewer. -/
theorem tu_mono {i k : Nat} (hi : i < n) (hk : k < n) (hw : W k ≤ W i) : tuN W n q k ≤ tuN W n q i := by
  by_cases hik : i = k
  · subst hik; exact Nat.le_refl _
  unfold tuN
  have hperm := allO_map (n := n) (f := fun p => p.map (exN i k)) (fun p hp => ex_perm hi hk hp) (fun p r hp hr e => by
    have : (p.map (exN i k)).map (exN i k) = (r.map (exN i k)).map (exN i k) := by rw [e]
    rw [List.map_map, List.map_map] at this
    have id : ∀ l : List Int, l.map (exN i k ∘ exN i k) = l := fun l => by
      have : exN (i : Int) k ∘ exN i k = _root_.id := by funext x; exact exN_exN _ _ x
      rw [this, List.map_id]
    rwa [id, id] at this)
  rw [← hperm.countP_eq (p := fun p => critP W n q p (i : Int)), List.countP_map]
  apply List.countP_mono_left
  intro p hp h
  have hp := mem_allO.1 hp
  rw [Function.comp_apply]
  unfold critP at h ⊢
  rw [Bool.and_eq_true, decide_eq_true_eq, decide_eq_true_eq] at h ⊢
  rw [pre_ex hi hk hp]
  have hm : (i : Int) ∈ sides n := mem_sides.2 ⟨by omega, by omega⟩
  have d := tot_diff (sides_nodup n) hm (φ := fun j => if pos p j < pos p (k : Int) then wI W (exN i k j) else 0) (ψ := fun j => if pos p j < pos p (k : Int) then wI W j else 0) (fun x hx hne => by
    by_cases e : x = (k : Int)
    · subst e; rw [if_neg (by omega), if_neg (by omega)]
    · have : exN (i : Int) k x = x := by unfold exN; rw [if_neg hne, if_neg e]
      rw [this])
  have hki : exN (i : Int) k (i : Int) = k := by unfold exN; rw [if_pos rfl]
  unfold preP at h
  have hwi : wI W (i : Int) = W i := by unfold wI; rw [Int.toNat_natCast]
  have hwk : wI W (k : Int) = W k := by unfold wI; rw [Int.toNat_natCast]
  rw [hki] at d
  rw [hwk] at h d
  rw [hwi] at d ⊢
  by_cases c : pos p (i : Int) < pos p (k : Int)
  · rw [if_pos c, if_pos c] at d
    omega
  · rw [if_neg c, if_neg c] at d
    omega
/-- In the dual game as many. -/
theorem pre_rev {p : List Int} (hp : p.Perm (sides n)) {i : Nat} (hi : i < n) : preP W n p.reverse i + preP W n p i + W i = tot (sides n) (wI W) := by
  unfold preP
  have hm : (i : Int) ∈ sides n := mem_sides.2 ⟨by omega, by omega⟩
  rw [← tot_add]
  have d := tot_diff (sides_nodup n) hm (φ := fun j => (if pos p.reverse j < pos p.reverse (i : Int) then wI W j else 0) + if pos p j < pos p (i : Int) then wI W j else 0) (ψ := wI W) (fun x hx hne => by
    have hx' := mem_sides.1 hx
    obtain ⟨y, rfl⟩ : ∃ y : Nat, x = y := ⟨x.toNat, by omega⟩
    have hne2 : pos p (y : Int) ≠ pos p (i : Int) := fun e => hne (pos_inj (perm_nodup hp) (hp.mem_iff.2 hx) (hp.mem_iff.2 hm) e)
    rw [pos_rev2 hp (by omega), pos_rev2 hp hi]
    by_cases c : pos p (y : Int) < pos p (i : Int)
    · rw [if_pos c, if_neg (by omega)]; omega
    · rw [if_neg c, if_pos (by omega)]; omega)
  rw [if_neg (by omega), if_neg (by omega)] at d
  have hwi : wI W (i : Int) = W i := by unfold wI; rw [Int.toNat_natCast]
  omega
theorem tu_dual {i : Nat} (hi : i < n) (h1 : 1 ≤ q) (hq : q ≤ tot (sides n) (wI W)) : tuN W n (tot (sides n) (wI W) + 1 - q) i = tuN W n q i := by
  unfold tuN
  have hperm := allO_map (n := n) (f := List.reverse) (fun p hp => (List.reverse_perm p).trans hp) (fun p r _ _ e => by
    have : p.reverse.reverse = r.reverse.reverse := by rw [e]
    rwa [List.reverse_reverse, List.reverse_reverse] at this)
  rw [← hperm.countP_eq, List.countP_map]
  apply List.countP_congr
  intro p hp
  have hp := mem_allO.1 hp
  have e := pre_rev (W := W) hp hi
  rw [Function.comp_apply]
  unfold critP
  have hwi : wI W (i : Int) = W i := by unfold wI; rw [Int.toNat_natCast]
  rw [hwi, Bool.and_eq_true, Bool.and_eq_true, decide_eq_true_eq, decide_eq_true_eq, decide_eq_true_eq, decide_eq_true_eq]
  omega
theorem tot_sN (W : Nat → Nat) (n : Nat) : tot (sides n) (wI W) = sN W n := by
  induction n with
  | zero => rfl
  | succ n ih => rw [tot_succ, ih, sN]; unfold wI; rw [Int.toNat_natCast]
theorem tu_sumN (h1 : 1 ≤ q) (hq : q ≤ sN W n) : sN (tuN W n q) n = (allO n).length := by
  rw [← tu_sum (W := W) h1 (by rw [tot_sN]; exact hq), ← tot_sN]
  rfl
end
end Fm

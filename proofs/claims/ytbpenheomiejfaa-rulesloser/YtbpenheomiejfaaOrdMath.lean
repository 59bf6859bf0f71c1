/-
  The distance between orders is a metric; what it is of the reversed order and of neighbours exchanged: lists of ints alone, no Go text.
-/
import Derived.Test.YtbpenheomiejfaaKeepSpec
namespace Fm
set_option linter.unusedVariables false

def tot (S : List Int) (φ : Int → Nat) : Nat := (S.map φ).sum
theorem tot_nil (φ : Int → Nat) : tot [] φ = 0 := rfl
theorem tot_cons (x : Int) (S : List Int) (φ : Int → Nat) : tot (x :: S) φ = φ x + tot S φ := by simp [tot]
theorem tot_append (S T : List Int) (φ : Int → Nat) : tot (S ++ T) φ = tot S φ + tot T φ := by simp [tot]
theorem tot_perm {S T : List Int} (h : S.Perm T) (φ : Int → Nat) : tot S φ = tot T φ := (h.map φ).sum_nat
theorem tot_congr {S : List Int} {φ ψ : Int → Nat} (h : ∀ x ∈ S, φ x = ψ x) : tot S φ = tot S ψ := by
  unfold tot; rw [List.map_congr_left h]
theorem tot_le {S : List Int} {φ ψ : Int → Nat} (h : ∀ x ∈ S, φ x ≤ ψ x) : tot S φ ≤ tot S ψ := by
  induction S with
  | nil => simp [tot]
  | cons a S ih =>
    rw [tot_cons, tot_cons]
    have := h a (by simp)
    have := ih (fun x hx => h x (by simp [hx]))
    omega
theorem tot_add (S : List Int) (φ ψ : Int → Nat) : tot S (fun x => φ x + ψ x) = tot S φ + tot S ψ := by
  induction S with
  | nil => rfl
  | cons a S ih => rw [tot_cons, tot_cons, tot_cons, ih]; omega
theorem tot_zero {S : List Int} {φ : Int → Nat} : tot S φ = 0 ↔ ∀ x ∈ S, φ x = 0 := by
  induction S with
  | nil => simp [tot]
  | cons a S ih =>
    rw [tot_cons]
    constructor
    · intro h x hx
      rcases List.mem_cons.1 hx with rfl | hx
      · omega
      · exact ih.1 (by omega) x hx
    · intro h
      have h1 := h a (by simp)
      have h2 := ih.2 (fun x hx => h x (by simp [hx]))
      omega
theorem tot_swap (S T : List Int) (φ : Int → Int → Nat) : tot S (fun x => tot T (fun y => φ x y)) = tot T (fun y => tot S (fun x => φ x y)) := by
  induction S with
  | nil =>
    rw [tot_nil]
    exact (tot_zero.2 (fun x _ => rfl)).symm
  | cons a S ih =>
    rw [tot_cons, ih, ← tot_add]
    exact tot_congr (fun y _ => by rw [tot_cons])
theorem countP_tot (P : Int → Bool) (S : List Int) : S.countP P = tot S (fun y => if P y then 1 else 0) := by
  induction S with
  | nil => rfl
  | cons a S ih =>
    rw [tot_cons, List.countP_cons, ih]
    omega

theorem getD_get {l : List Int} {k : Nat} (h : k < l.length) : l.getD k 0 = l[k] := by
  rw [List.getD_eq_getElem?_getD, List.getElem?_eq_getElem h]; rfl

theorem atTo_idx {p : List Int} (hp : p.Nodup) {k m : Nat} (hk : k < m) (hm : m ≤ p.length) : atTo p m (p.getD k 0) = k := by
  induction m with
  | zero => omega
  | succ m ih =>
    simp only [atTo]
    by_cases e : k = m
    · subst e; simp
    · rw [getD_get (by omega), getD_get (by omega), if_neg (fun h => e ((List.getElem_inj hp).1 h).symm), ← getD_get (by omega)]
      exact ih (by omega) (by omega)

/-- The place of y in p. -/
def pos (p : List Int) (y : Int) : Int := atTo p p.length y
theorem pos_idx {p : List Int} (hp : p.Nodup) {k : Nat} (hk : k < p.length) : pos p (p.getD k 0) = k := atTo_idx hp hk (Nat.le_refl _)
theorem pos_mem {p : List Int} (hp : p.Nodup) {y : Int} (hy : y ∈ p) : ∃ k, k < p.length ∧ p.getD k 0 = y ∧ pos p y = k := by
  obtain ⟨k, hk, rfl⟩ := List.getElem_of_mem hy
  exact ⟨k, hk, getD_get hk, by rw [← getD_get hk]; exact pos_idx hp hk⟩
theorem pos_inj {p : List Int} (hp : p.Nodup) {x y : Int} (hx : x ∈ p) (hy : y ∈ p) (h : pos p x = pos p y) : x = y := by
  obtain ⟨k, hk, rfl, h1⟩ := pos_mem hp hx
  obtain ⟨j, hj, rfl, h2⟩ := pos_mem hp hy
  rw [h1, h2] at h
  have : k = j := by omega
  rw [this]

def dis (f g : Int → Int) (x y : Int) : Nat := if g x < g y ∧ f y < f x then 1 else 0

theorem lower_dis {p : List Int} (hp : p.Nodup) (f : Int → Int) {k : Nat} (hk : k < p.length) :
    lower f (p.getD k 0) (p.drop (k + 1)) = tot p (fun y => dis f (pos p) (p.getD k 0) y) := by
  have e : tot p (fun y => dis f (pos p) (p.getD k 0) y) = tot (p.take (k + 1)) (fun y => dis f (pos p) (p.getD k 0) y) + tot (p.drop (k + 1)) (fun y => dis f (pos p) (p.getD k 0) y) := by
    rw [← tot_append, List.take_append_drop]
  have e1 : tot (p.take (k + 1)) (fun y => dis f (pos p) (p.getD k 0) y) = 0 := by
    refine tot_zero.2 (fun y hy => ?_)
    obtain ⟨j, hj, rfl⟩ := List.getElem_of_mem hy
    rw [List.getElem_take]
    rw [List.length_take] at hj
    unfold dis
    rw [← getD_get (by omega), pos_idx hp hk, pos_idx hp (by omega), if_neg (by omega)]
  rw [e, e1, Nat.zero_add]
  unfold lower
  rw [countP_tot]
  refine tot_congr (fun y hy => ?_)
  obtain ⟨j, hj, rfl⟩ := List.getElem_of_mem hy
  rw [List.length_drop] at hj
  rw [List.getElem_drop]
  unfold dis
  rw [← getD_get (by omega), pos_idx hp hk, pos_idx hp (by omega)]
  by_cases h : f (p.getD (k + 1 + j) 0) < f (p.getD k 0)
  · rw [if_pos (by simpa using h), if_pos ⟨by omega, h⟩]
  · rw [if_neg (by simpa using h), if_neg (fun c => h c.2)]

theorem invTo_tot {p : List Int} (hp : p.Nodup) (f : Int → Int) {k : Nat} (hk : k ≤ p.length) :
    invTo f p k = tot (p.take k) (fun x => tot p (fun y => dis f (pos p) x y)) := by
  induction k with
  | zero => simp [invTo, tot]
  | succ k ih =>
    simp only [invTo]
    rw [ih (by omega), lower_dis hp f (by omega), take_succ_getD p k (by omega), tot_append, tot_cons, tot_nil]
    omega

theorem inv_tot {p q : List Int} (hp : p.Nodup) : inv p q = tot p (fun x => tot p (fun y => dis (pos q) (pos p) x y)) := by
  have h := invTo_tot hp (pos q) (Nat.le_refl p.length)
  rw [List.take_of_length_le (Nat.le_refl _)] at h
  exact h
theorem inv_on {p q S : List Int} (hp : p.Nodup) (h : p.Perm S) : inv p q = tot S (fun x => tot S (fun y => dis (pos q) (pos p) x y)) := by
  rw [inv_tot hp, tot_perm h]
  exact tot_congr (fun x _ => tot_perm h _)

section
variable {n : Nat} {p q r : List Int}
theorem inv_symm (hp : p.Perm (sides n)) (hq : q.Perm (sides n)) : inv p q = inv q p := by
  rw [inv_on (hp.nodup_iff.2 (sides_nodup n)) hp, inv_on (hq.nodup_iff.2 (sides_nodup n)) hq, tot_swap]
  refine tot_congr (fun y _ => tot_congr (fun x _ => ?_))
  unfold dis
  by_cases h : pos p x < pos p y ∧ pos q y < pos q x
  · rw [if_pos h, if_pos ⟨h.2, h.1⟩]
  · rw [if_neg h, if_neg (fun c => h ⟨c.2, c.1⟩)]
theorem inv_tri (hp : p.Perm (sides n)) (hq : q.Perm (sides n)) (hr : r.Perm (sides n)) : inv p r ≤ inv p q + inv q r := by
  have nq := hq.nodup_iff.2 (sides_nodup n)
  rw [inv_on (hp.nodup_iff.2 (sides_nodup n)) hp, inv_on (hp.nodup_iff.2 (sides_nodup n)) hp, inv_on nq hq, ← tot_add]
  refine tot_le (fun x hx => ?_)
  rw [← tot_add]
  refine tot_le (fun y hy => ?_)
  unfold dis
  by_cases h : pos p x < pos p y ∧ pos r y < pos r x
  · rw [if_pos h]
    have hne : pos q x ≠ pos q y := fun e => by
      have := pos_inj nq (hq.mem_iff.2 hx) (hq.mem_iff.2 hy) e
      subst this
      omega
    by_cases h2 : pos q y < pos q x
    · rw [if_pos ⟨h.1, h2⟩]; omega
    · rw [if_pos (show pos q x < pos q y ∧ pos r y < pos r x from ⟨by omega, h.2⟩)]; omega
  · rw [if_neg h]; omega
theorem pos_pairwise (hp : p.Nodup) : p.Pairwise (fun a b => pos p a < pos p b) := by
  rw [List.pairwise_iff_getElem]
  intro i j hi hj hij
  rw [← getD_get hi, ← getD_get hj, pos_idx hp hi, pos_idx hp hj]
  omega
theorem inv_self (hp : p.Nodup) : inv p p = 0 := by
  rw [inv_tot hp]
  refine tot_zero.2 (fun x _ => tot_zero.2 (fun y _ => ?_))
  unfold dis
  rw [if_neg (by omega)]
theorem inv_eq (hp : p.Perm (sides n)) (hq : q.Perm (sides n)) (h : inv p q = 0) : p = q := by
  have np := hp.nodup_iff.2 (sides_nodup n)
  have nq := hq.nodup_iff.2 (sides_nodup n)
  have hpq := hp.trans hq.symm
  rw [inv_tot np] at h
  have h1 : p.Pairwise (fun a b => pos q a < pos q b) := by
    refine (pos_pairwise np).imp_of_mem (fun {a b} ha hb hab => ?_)
    have h2 := tot_zero.1 (tot_zero.1 h a ha) b hb
    have h3 : ¬ pos q b < pos q a := fun c => by unfold dis at h2; rw [if_pos ⟨hab, c⟩] at h2; cases h2
    have h4 : pos q a ≠ pos q b := fun e => by
      have := pos_inj nq (hpq.mem_iff.1 ha) (hpq.mem_iff.1 hb) e
      subst this
      omega
    omega
  exact hpq.eq_of_pairwise (fun a b ha hb hab hba => by omega) h1 (pos_pairwise nq)
end

theorem lower_map (f g : Int → Int) (x : Int) (t : List Int) : lower f (g x) (t.map g) = lower (fun z => f (g z)) x t := by
  unfold lower; rw [List.countP_map]; rfl
theorem invTo_map (f g : Int → Int) (S : List Int) (k : Nat) (hk : k ≤ S.length) : invTo f (S.map g) k = invTo (fun z => f (g z)) S k := by
  induction k with
  | zero => rfl
  | succ k ih =>
    simp only [invTo]
    have e : (S.map g).getD k 0 = g (S.getD k 0) := by
      rw [getD_get (by simp; omega), getD_get (by omega), List.getElem_map]
    rw [ih (by omega), e, ← List.map_drop, lower_map]
theorem lower_congr {f f' : Int → Int} {x : Int} {t : List Int} (hx : f x = f' x) (h : ∀ y ∈ t, f y = f' y) : lower f x t = lower f' x t := by
  unfold lower
  exact List.countP_congr (fun y hy => by rw [h y hy, hx])
theorem invTo_congr {f f' : Int → Int} {S : List Int} (h : ∀ y ∈ S, f y = f' y) (k : Nat) (hk : k ≤ S.length) : invTo f S k = invTo f' S k := by
  induction k with
  | zero => rfl
  | succ k ih =>
    simp only [invTo]
    rw [ih (by omega), lower_congr (h _ (getD_mem S k (by omega))) (fun y hy => h y (List.mem_of_mem_drop hy))]
theorem as_map (p : List Int) : p = (sides p.length).map (fun z => p.getD z.toNat 0) := by
  apply List.ext_getElem
  · simp [sides_len]
  · intro i h1 h2
    simp [sides, List.getElem?_eq_getElem h1]
/-- The distance by places alone: τ tells at which place of q that which stands at a place of p lies. -/
theorem inv_places {p q : List Int} {n : Nat} (hl : p.length = n) (τ : Int → Int) (h : ∀ k, k < n → pos q (p.getD k 0) = τ k) : inv p q = invTo τ (sides n) n := by
  unfold inv
  subst hl
  have e : invTo (atTo q q.length) p p.length = invTo (atTo q q.length) ((sides p.length).map (fun z => p.getD z.toNat 0)) p.length := by rw [← as_map]
  rw [e, invTo_map _ _ _ _ (by rw [sides_len]; exact Nat.le_refl _)]
  refine invTo_congr (fun y hy => ?_) _ (by rw [sides_len]; exact Nat.le_refl _)
  have hy := mem_sides.1 hy
  have := h y.toNat (by omega)
  rw [show ((y.toNat : Nat) : Int) = y by omega] at this
  exact this
end Fm

import Derived.Below
import Derived.Laws.OwnMore
import Derived.Deep.Draws
import Derived.Deep.OwnRows
import Derived.Lib.Hide
import Derived.Lib.OwnBridge
import Derived.Laws.IdiomCopy
import Derived.Sort.Grow
import Derived.Laws.MakeOwn
import Derived.Deep.AppendLies
import Derived.ProofKit
import Derived.OpenShut
import Derived.SizedLaws
import Derived.Deep.Matrix
/-
  The plain mathematics of package order: lists of ints alone, no Go text.
-/
namespace Fm

/-- What order.Check answers. -/
def isOrd (n : Int) (l : List Int) : Prop := (∀ x ∈ l, 0 ≤ x ∧ x < n) ∧ l.Nodup
abbrev isOrdDec (n : Int) (l : List Int) : Decidable (isOrd n l) := by unfold isOrd; infer_instance
attribute [instance] isOrdDec
def chk (n : Int) (l : List Int) : Int := if n < 1 ∨ 6 < n then 1 else if (l.length : Int) ≠ n then 3 else if isOrd n l then 0 else 3

theorem chk_arg {n : Int} {l : List Int} (h : n < 1 ∨ 6 < n) : chk n l = 1 := by unfold chk; rw [if_pos h]
theorem chk_len {n : Int} {l : List Int} (h : ¬ (n < 1 ∨ 6 < n)) (hl : (l.length : Int) ≠ n) : chk n l = 3 := by unfold chk; rw [if_neg h, if_pos hl]
theorem chk_bad {n : Int} {l : List Int} (h : ¬ (n < 1 ∨ 6 < n)) (hl : (l.length : Int) = n) (hb : ¬ isOrd n l) : chk n l = 3 := by unfold chk; rw [if_neg h, if_neg (by simpa using hl), if_neg hb]
theorem chk_ok {n : Int} {l : List Int} (h : ¬ (n < 1 ∨ 6 < n)) (hl : (l.length : Int) = n) (hb : isOrd n l) : chk n l = 0 := by unfold chk; rw [if_neg h, if_neg (by simpa using hl), if_pos hb]

theorem chk_zero {n : Int} {l : List Int} (h : chk n l = 0) : (1 ≤ n ∧ n ≤ 6) ∧ (l.length : Int) = n ∧ isOrd n l := by
  unfold chk at h
  by_cases h1 : n < 1 ∨ 6 < n
  · rw [if_pos h1] at h; cases h
  · rw [if_neg h1] at h
    by_cases h2 : (l.length : Int) ≠ n
    · rw [if_pos h2] at h; cases h
    · rw [if_neg h2] at h
      by_cases h3 : isOrd n l
      · exact ⟨by omega, by simpa using h2, h3⟩
      · rw [if_neg h3] at h; cases h

theorem take_succ_getD (l : List Int) (k : Nat) (h : k < l.length) : l.take (k + 1) = l.take k ++ [l.getD k 0] := by
  rw [List.take_succ_eq_append_getElem h, List.getD_eq_getElem?_getD, List.getElem?_eq_getElem h]; rfl

theorem isOrd_snoc {n : Int} {t : List Int} {x : Int} : isOrd n (t ++ [x]) ↔ isOrd n t ∧ 0 ≤ x ∧ x < n ∧ x ∉ t := by
  unfold isOrd
  rw [List.nodup_append]
  simp only [List.mem_append, List.mem_singleton]
  constructor
  · rintro ⟨h, h1, _, h3⟩
    exact ⟨⟨fun y hy => h y (.inl hy), h1⟩, (h x (.inr rfl)).1, (h x (.inr rfl)).2, fun hx => h3 x hx x (by simp) rfl⟩
  · rintro ⟨⟨h, h1⟩, h2, h3, h4⟩
    refine ⟨fun y hy => ?_, h1, by simp, fun y hy z hz => ?_⟩
    · rcases hy with hy | rfl
      · exact h y hy
      · exact ⟨h2, h3⟩
    · subst hz; rintro rfl; exact h4 hy

theorem isOrd_take {n : Int} {l : List Int} (k : Nat) (h : isOrd n l) : isOrd n (l.take k) :=
  ⟨fun x hx => h.1 x (List.mem_of_mem_take hx), h.2.sublist (List.take_sublist k l)⟩

theorem getD_mem (l : List Int) (k : Nat) (h : k < l.length) : l.getD k 0 ∈ l := by
  rw [List.getD_eq_getElem?_getD, List.getElem?_eq_getElem h]; exact List.getElem_mem h

/-- The last index below k at which q holds y, or 0. -/
def atTo (q : List Int) : Nat → Int → Int
  | 0, _ => 0
  | k + 1, y => if q.getD k 0 = y then (k : Int) else atTo q k y

/-- Of the list t, how many does f put below x. -/
def lower (f : Int → Int) (x : Int) (t : List Int) : Nat := t.countP fun y => decide (f y < f x)
theorem lower_nil (f : Int → Int) (x : Int) : lower f x [] = 0 := rfl
theorem lower_snoc (f : Int → Int) (x y : Int) (t : List Int) : lower f x (t ++ [y]) = lower f x t + if f y < f x then 1 else 0 := by
  unfold lower
  rw [List.countP_append]
  by_cases h : f y < f x <;> simp [h]
theorem lower_le (f : Int → Int) (x : Int) (t : List Int) : lower f x t ≤ t.length := List.countP_le_length
/-- The pairs i < j of p, i below k, that f ranks the other way. -/
def invTo (f : Int → Int) (p : List Int) : Nat → Nat
  | 0 => 0
  | k + 1 => invTo f p k + lower f (p.getD k 0) (p.drop (k + 1))
theorem invTo_le (f : Int → Int) (p : List Int) (k : Nat) : invTo f p k ≤ k * p.length := by
  induction k with
  | zero => simp [invTo]
  | succ k ih =>
    have h := lower_le f (p.getD k 0) (p.drop (k + 1))
    have h2 : (p.drop (k + 1)).length ≤ p.length := by simp
    have h3 : (k + 1) * p.length = k * p.length + p.length := Nat.succ_mul _ _
    simp only [invTo]
    omega
/-- What order.Far counts. -/
def inv (p q : List Int) : Nat := invTo (atTo q q.length) p p.length

/-- What tally.Check answers. -/
def vchk (n : Int) (L : List (List Int)) : Int := if n < 1 ∨ 6 < n then 1 else if 30 < L.length then 2 else if (∀ l ∈ L, chk n l = 0) then 0 else 3
theorem vchk_arg {n : Int} {L : List (List Int)} (h : n < 1 ∨ 6 < n) : vchk n L = 1 := by unfold vchk; rw [if_pos h]
theorem vchk_large {n : Int} {L : List (List Int)} (h : ¬ (n < 1 ∨ 6 < n)) (hl : 30 < L.length) : vchk n L = 2 := by unfold vchk; rw [if_neg h, if_pos hl]
theorem vchk_form {n : Int} {L : List (List Int)} (h : ¬ (n < 1 ∨ 6 < n)) (hl : ¬ 30 < L.length) (hb : ¬ ∀ l ∈ L, chk n l = 0) : vchk n L = 3 := by unfold vchk; rw [if_neg h, if_neg hl, if_neg hb]
theorem vchk_ok {n : Int} {L : List (List Int)} (h : ¬ (n < 1 ∨ 6 < n)) (hl : ¬ 30 < L.length) (hb : ∀ l ∈ L, chk n l = 0) : vchk n L = 0 := by unfold vchk; rw [if_neg h, if_neg hl, if_pos hb]
theorem vchk_zero {n : Int} {L : List (List Int)} (h : vchk n L = 0) : (1 ≤ n ∧ n ≤ 6) ∧ L.length ≤ 30 ∧ ∀ l ∈ L, chk n l = 0 := by
  unfold vchk at h
  by_cases h1 : n < 1 ∨ 6 < n
  · rw [if_pos h1] at h; cases h
  · rw [if_neg h1] at h
    by_cases h2 : 30 < L.length
    · rw [if_pos h2] at h; cases h
    · rw [if_neg h2] at h
      by_cases h3 : ∀ l ∈ L, chk n l = 0
      · exact ⟨by omega, by omega, h3⟩
      · rw [if_neg h3] at h; cases h
theorem all_getD {P : List Int → Prop} {L : List (List Int)} (h : ∀ j, j < L.length → P (L.getD j [])) : ∀ l ∈ L, P l := by
  intro l hl
  obtain ⟨j, hj, rfl⟩ := List.getElem_of_mem hl
  have := h j hj
  rw [List.getD_eq_getElem?_getD, List.getElem?_eq_getElem hj] at this
  exact this

end Fm
/-
  The plain mathematics of the orders that the laws make of any numbers: lists of ints alone, no Go text.
-/
namespace Fm
set_option linter.unusedVariables false

theorem tmod_neg {n m : Int} (hm : 0 < m) (h : n.tmod m < 0) : n.tmod m + m = n % m := by
  have h1 : n = m * n.tdiv m + n.tmod m := (Int.mul_tdiv_add_tmod n m).symm
  have h2 : -m < n.tmod m := by
    have h3 := Int.natAbs_tmod n m
    have h4 : n.natAbs % m.natAbs < m.natAbs := Nat.mod_lt _ (by omega)
    omega
  have h5 : n % m = (n.tmod m + m) % m := by
    rw [Int.add_emod_right]
    exact (congrArg (fun z => z % m) h1).trans (by rw [Int.add_comm, Int.add_mul_emod_self_left])
  rw [h5, Int.emod_eq_of_lt (by omega) (by omega)]
theorem tmod_pos {n m : Int} (hm : 0 < m) (h : ¬ n.tmod m < 0) : n.tmod m = n % m := by
  have h1 : n = m * n.tdiv m + n.tmod m := (Int.mul_tdiv_add_tmod n m).symm
  have h2 : n.tmod m < m := by
    have h3 := Int.natAbs_tmod n m
    have h4 : n.natAbs % m.natAbs < m.natAbs := Nat.mod_lt _ (by omega)
    omega
  have h5 : n % m = (n.tmod m) % m := (congrArg (fun z => z % m) h1).trans (by rw [Int.add_comm, Int.add_mul_emod_self_left])
  rw [h5, Int.emod_eq_of_lt (by omega) h2]
theorem tmod_lo (n : Int) {m : Int} (hm : 0 < m) : -m < n.tmod m ∧ n.tmod m < m := by
  have h3 := Int.natAbs_tmod n m
  have h4 : n.natAbs % m.natAbs < m.natAbs := Nat.mod_lt _ (by omega)
  omega

/-- 0, 1, 2 .. below n. -/
def sides (n : Nat) : List Int := (List.range n).map fun (i : Nat) => (i : Int)
theorem sides_succ (n : Nat) : sides (n + 1) = sides n ++ [(n : Int)] := by simp [sides, List.range_succ]
theorem sides_len (n : Nat) : (sides n).length = n := by simp [sides]
theorem mem_sides {n : Nat} {x : Int} : x ∈ sides n ↔ 0 ≤ x ∧ x < n := by
  simp only [sides, List.mem_map, List.mem_range]
  constructor
  · rintro ⟨i, hi, rfl⟩; omega
  · rintro ⟨h0, h1⟩; exact ⟨x.toNat, by omega, by omega⟩
theorem sides_nodup (n : Nat) : (sides n).Nodup := by
  induction n with
  | zero => simp [sides]
  | succ n ih =>
    rw [sides_succ, List.nodup_append]
    refine ⟨ih, by simp, fun a ha b hb => ?_⟩
    simp at hb
    have := (mem_sides.1 ha).2
    omega

/-- Which of those that are left is taken. -/
def pickK (l left : List Int) (i : Nat) : Nat := if i < l.length then ((l.getD i 0) % (left.length : Int)).toNat else 0
def ordTo (n : Nat) (l : List Int) : Nat → List Int × List Int
  | 0 => ([], sides n)
  | i + 1 => ((ordTo n l i).1 ++ [(ordTo n l i).2.getD (pickK l (ordTo n l i).2 i) 0], (ordTo n l i).2.eraseIdx (pickK l (ordTo n l i).2 i))
def ordOf (n : Nat) (l : List Int) : List Int := (ordTo n l n).1

theorem pickK_lt {l left : List Int} {i : Nat} (h : 0 < left.length) : pickK l left i < left.length := by
  unfold pickK
  split
  · have := Int.emod_nonneg (l.getD i 0) (show (left.length : Int) ≠ 0 by omega)
    have := Int.emod_lt_of_pos (l.getD i 0) (show (0 : Int) < left.length by omega)
    omega
  · exact h
theorem ordTo_len2 (n : Nat) (l : List Int) (i : Nat) (h : i ≤ n) : (ordTo n l i).2.length = n - i := by
  induction i with
  | zero => simp [ordTo, sides_len]
  | succ i ih =>
    have ih := ih (by omega)
    have := pickK_lt (l := l) (i := i) (left := (ordTo n l i).2) (by omega)
    simp only [ordTo]
    rw [List.length_eraseIdx, if_pos this]
    omega
theorem ordTo_len1 (n : Nat) (l : List Int) (i : Nat) : (ordTo n l i).1.length = i := by
  induction i with
  | zero => rfl
  | succ i ih => simp [ordTo, ih]
theorem eraseIdx_perm (t : List Int) (k : Nat) (h : k < t.length) : (t.getD k 0 :: t.eraseIdx k).Perm t := by
  rw [List.getD_eq_getElem?_getD, List.getElem?_eq_getElem h, List.eraseIdx_eq_take_drop_succ]
  have e : t = t.take k ++ t[k] :: t.drop (k + 1) := by rw [← List.drop_eq_getElem_cons h, List.take_append_drop]
  have p : (t[k] :: (t.take k ++ t.drop (k + 1))).Perm (t.take k ++ t[k] :: t.drop (k + 1)) := List.perm_middle.symm
  rw [← e] at p
  exact p
theorem ordTo_perm (n : Nat) (l : List Int) (i : Nat) (h : i ≤ n) : ((ordTo n l i).1 ++ (ordTo n l i).2).Perm (sides n) := by
  induction i with
  | zero => simp [ordTo]
  | succ i ih =>
    have h2 := ordTo_len2 n l i (by omega)
    have hk := pickK_lt (l := l) (i := i) (left := (ordTo n l i).2) (by omega)
    refine List.Perm.trans ?_ (ih (by omega))
    simp only [ordTo, List.append_assoc, List.singleton_append]
    exact List.Perm.append_left _ (eraseIdx_perm _ _ hk)
theorem ordOf_perm (n : Nat) (l : List Int) : (ordOf n l).Perm (sides n) := by
  have h := ordTo_perm n l n (Nat.le_refl _)
  have h2 : (ordTo n l n).2 = [] := List.eq_nil_of_length_eq_zero (by rw [ordTo_len2 n l n (Nat.le_refl _)]; omega)
  rw [h2, List.append_nil] at h
  exact h
theorem ordOf_len (n : Nat) (l : List Int) : (ordOf n l).length = n := ordTo_len1 n l n
theorem isOrd_of_perm {n : Nat} {l : List Int} (h : l.Perm (sides n)) : isOrd n l :=
  ⟨fun x hx => mem_sides.1 (h.mem_iff.1 hx), h.nodup_iff.2 (sides_nodup n)⟩
theorem chk_perm {n : Nat} {l : List Int} (h : l.Perm (sides n)) (h1 : 1 ≤ n) (h6 : n ≤ 6) : chk n l = 0 :=
  chk_ok (by omega) (by have := h.length_eq; rw [sides_len] at this; omega) (isOrd_of_perm h)
/-- The votes that the laws make of any lists. -/
def votesOf (n : Nat) (L : List (List Int)) : List (List Int) := (L.take 30).map (ordOf n)
theorem votesOf_len (n : Nat) (L : List (List Int)) : (votesOf n L).length = min L.length 30 := by simp [votesOf, Nat.min_comm]
theorem votesOf_mem {n : Nat} {L : List (List Int)} {p : List Int} (h : p ∈ votesOf n L) : p.Perm (sides n) := by
  unfold votesOf at h
  rw [List.mem_map] at h
  obtain ⟨l, _, rfl⟩ := h
  exact ordOf_perm n l
end Fm
/-
  The distance between orders is a metric; what it is of the reversed order and of neighbours exchanged: lists of ints alone, no Go text.
-/
namespace Fm
set_option linter.unusedVariables false

def tot (S : List Int) (φ : Int → Nat) : Nat := (S.map φ).sum
theorem tot_nil (φ : Int → Nat) : tot [] φ = 0 := rfl
theorem tot_cons (x : Int) (S : List Int) (φ : Int → Nat) : tot (x :: S) φ = φ x + tot S φ := by simp [tot]
theorem tot_append (S T : List Int) (φ : Int → Nat) : tot (S ++ T) φ = tot S φ + tot T φ := by simp [tot]
theorem tot_perm {S T : List Int} (h : S.Perm T) (φ : Int → Nat) : tot S φ = tot T φ := (h.map φ).sum_nat
theorem tot_congr {S : List Int} {φ ψ : Int → Nat} (h : ∀ x ∈ S, φ x = ψ x) : tot S φ = tot S ψ := by
  unfold tot; rw [List.map_congr_left h]
theorem tot_le {S : List Int} {φ ψ : Int → Nat} (h : ∀ x ∈ S, φ x ≤ ψ x) : tot S φ ≤ tot S ψ := by
  induction S with
  | nil => simp [tot]
  | cons a S ih =>
    rw [tot_cons, tot_cons]
    have := h a (by simp)
    have := ih (fun x hx => h x (by simp [hx]))
    omega
theorem tot_add (S : List Int) (φ ψ : Int → Nat) : tot S (fun x => φ x + ψ x) = tot S φ + tot S ψ := by
  induction S with
  | nil => rfl
  | cons a S ih => rw [tot_cons, tot_cons, tot_cons, ih]; omega
theorem tot_zero {S : List Int} {φ : Int → Nat} : tot S φ = 0 ↔ ∀ x ∈ S, φ x = 0 := by
  induction S with
  | nil => simp [tot]
  | cons a S ih =>
    rw [tot_cons]
    constructor
    · intro h x hx
      rcases List.mem_cons.1 hx with rfl | hx
      · omega
      · exact ih.1 (by omega) x hx
    · intro h
      have h1 := h a (by simp)
      have h2 := ih.2 (fun x hx => h x (by simp [hx]))
      omega
theorem tot_swap (S T : List Int) (φ : Int → Int → Nat) : tot S (fun x => tot T (fun y => φ x y)) = tot T (fun y => tot S (fun x => φ x y)) := by
  induction S with
  | nil =>
    rw [tot_nil]
    exact (tot_zero.2 (fun x _ => rfl)).symm
  | cons a S ih =>
    rw [tot_cons, ih, ← tot_add]
    exact tot_congr (fun y _ => by rw [tot_cons])
theorem countP_tot (P : Int → Bool) (S : List Int) : S.countP P = tot S (fun y => if P y then 1 else 0) := by
  induction S with
  | nil => rfl
  | cons a S ih =>
    rw [tot_cons, List.countP_cons, ih]
    omega

theorem getD_get {l : List Int} {k : Nat} (h : k < l.length) : l.getD k 0 = l[k] := by
  rw [List.getD_eq_getElem?_getD, List.getElem?_eq_getElem h]; rfl

theorem atTo_idx {p : List Int} (hp : p.Nodup) {k m : Nat} (hk : k < m) (hm : m ≤ p.length) : atTo p m (p.getD k 0) = k := by
  induction m with
  | zero => omega
  | succ m ih =>
    simp only [atTo]
    by_cases e : k = m
    · subst e; simp
    · rw [getD_get (by omega), getD_get (by omega), if_neg (fun h => e ((List.getElem_inj hp).1 h).symm), ← getD_get (by omega)]
      exact ih (by omega) (by omega)

/-- The place of y in p. -/
def pos (p : List Int) (y : Int) : Int := atTo p p.length y
theorem pos_idx {p : List Int} (hp : p.Nodup) {k : Nat} (hk : k < p.length) : pos p (p.getD k 0) = k := atTo_idx hp hk (Nat.le_refl _)
theorem pos_mem {p : List Int} (hp : p.Nodup) {y : Int} (hy : y ∈ p) : ∃ k, k < p.length ∧ p.getD k 0 = y ∧ pos p y = k := by
  obtain ⟨k, hk, rfl⟩ := List.getElem_of_mem hy
  exact ⟨k, hk, getD_get hk, by rw [← getD_get hk]; exact pos_idx hp hk⟩
theorem pos_inj {p : List Int} (hp : p.Nodup) {x y : Int} (hx : x ∈ p) (hy : y ∈ p) (h : pos p x = pos p y) : x = y := by
  obtain ⟨k, hk, rfl, h1⟩ := pos_mem hp hx
  obtain ⟨j, hj, rfl, h2⟩ := pos_mem hp hy
  rw [h1, h2] at h
  have : k = j := by omega
  rw [this]

def dis (f g : Int → Int) (x y : Int) : Nat := if g x < g y ∧ f y < f x then 1 else 0

theorem lower_dis {p : List Int} (hp : p.Nodup) (f : Int → Int) {k : Nat} (hk : k < p.length) :
    lower f (p.getD k 0) (p.drop (k + 1)) = tot p (fun y => dis f (pos p) (p.getD k 0) y) := by
  have e : tot p (fun y => dis f (pos p) (p.getD k 0) y) = tot (p.take (k + 1)) (fun y => dis f (pos p) (p.getD k 0) y) + tot (p.drop (k + 1)) (fun y => dis f (pos p) (p.getD k 0) y) := by
    rw [← tot_append, List.take_append_drop]
  have e1 : tot (p.take (k + 1)) (fun y => dis f (pos p) (p.getD k 0) y) = 0 := by
    refine tot_zero.2 (fun y hy => ?_)
    obtain ⟨j, hj, rfl⟩ := List.getElem_of_mem hy
    rw [List.getElem_take]
    rw [List.length_take] at hj
    unfold dis
    rw [← getD_get (by omega), pos_idx hp hk, pos_idx hp (by omega), if_neg (by omega)]
  rw [e, e1, Nat.zero_add]
  unfold lower
  rw [countP_tot]
  refine tot_congr (fun y hy => ?_)
  obtain ⟨j, hj, rfl⟩ := List.getElem_of_mem hy
  rw [List.length_drop] at hj
  rw [List.getElem_drop]
  unfold dis
  rw [← getD_get (by omega), pos_idx hp hk, pos_idx hp (by omega)]
  by_cases h : f (p.getD (k + 1 + j) 0) < f (p.getD k 0)
  · rw [if_pos (by simpa using h), if_pos ⟨by omega, h⟩]
  · rw [if_neg (by simpa using h), if_neg (fun c => h c.2)]

theorem invTo_tot {p : List Int} (hp : p.Nodup) (f : Int → Int) {k : Nat} (hk : k ≤ p.length) :
    invTo f p k = tot (p.take k) (fun x => tot p (fun y => dis f (pos p) x y)) := by
  induction k with
  | zero => simp [invTo, tot]
  | succ k ih =>
    simp only [invTo]
    rw [ih (by omega), lower_dis hp f (by omega), take_succ_getD p k (by omega), tot_append, tot_cons, tot_nil]
    omega

theorem inv_tot {p q : List Int} (hp : p.Nodup) : inv p q = tot p (fun x => tot p (fun y => dis (pos q) (pos p) x y)) := by
  have h := invTo_tot hp (pos q) (Nat.le_refl p.length)
  rw [List.take_of_length_le (Nat.le_refl _)] at h
  exact h
theorem inv_on {p q S : List Int} (hp : p.Nodup) (h : p.Perm S) : inv p q = tot S (fun x => tot S (fun y => dis (pos q) (pos p) x y)) := by
  rw [inv_tot hp, tot_perm h]
  exact tot_congr (fun x _ => tot_perm h _)

section
variable {n : Nat} {p q r : List Int}
theorem inv_symm (hp : p.Perm (sides n)) (hq : q.Perm (sides n)) : inv p q = inv q p := by
  rw [inv_on (hp.nodup_iff.2 (sides_nodup n)) hp, inv_on (hq.nodup_iff.2 (sides_nodup n)) hq, tot_swap]
  refine tot_congr (fun y _ => tot_congr (fun x _ => ?_))
  unfold dis
  by_cases h : pos p x < pos p y ∧ pos q y < pos q x
  · rw [if_pos h, if_pos ⟨h.2, h.1⟩]
  · rw [if_neg h, if_neg (fun c => h ⟨c.2, c.1⟩)]
theorem inv_tri (hp : p.Perm (sides n)) (hq : q.Perm (sides n)) (hr : r.Perm (sides n)) : inv p r ≤ inv p q + inv q r := by
  have nq := hq.nodup_iff.2 (sides_nodup n)
  rw [inv_on (hp.nodup_iff.2 (sides_nodup n)) hp, inv_on (hp.nodup_iff.2 (sides_nodup n)) hp, inv_on nq hq, ← tot_add]
  refine tot_le (fun x hx => ?_)
  rw [← tot_add]
  refine tot_le (fun y hy => ?_)
  unfold dis
  by_cases h : pos p x < pos p y ∧ pos r y < pos r x
  · rw [if_pos h]
    have hne : pos q x ≠ pos q y := fun e => by
      have := pos_inj nq (hq.mem_iff.2 hx) (hq.mem_iff.2 hy) e
      subst this
      omega
    by_cases h2 : pos q y < pos q x
    · rw [if_pos ⟨h.1, h2⟩]; omega
    · rw [if_pos (show pos q x < pos q y ∧ pos r y < pos r x from ⟨by omega, h.2⟩)]; omega
  · rw [if_neg h]; omega
theorem pos_pairwise (hp : p.Nodup) : p.Pairwise (fun a b => pos p a < pos p b) := by
  rw [List.pairwise_iff_getElem]
  intro i j hi hj hij
  rw [← getD_get hi, ← getD_get hj, pos_idx hp hi, pos_idx hp hj]
  omega
theorem inv_self (hp : p.Nodup) : inv p p = 0 := by
  rw [inv_tot hp]
  refine tot_zero.2 (fun x _ => tot_zero.2 (fun y _ => ?_))
  unfold dis
  rw [if_neg (by omega)]
theorem inv_eq (hp : p.Perm (sides n)) (hq : q.Perm (sides n)) (h : inv p q = 0) : p = q := by
  have np := hp.nodup_iff.2 (sides_nodup n)
  have nq := hq.nodup_iff.2 (sides_nodup n)
  have hpq := hp.trans hq.symm
  rw [inv_tot np] at h
  have h1 : p.Pairwise (fun a b => pos q a < pos q b) := by
    refine (pos_pairwise np).imp_of_mem (fun {a b} ha hb hab => ?_)
    have h2 := tot_zero.1 (tot_zero.1 h a ha) b hb
    have h3 : ¬ pos q b < pos q a := fun c => by unfold dis at h2; rw [if_pos ⟨hab, c⟩] at h2; cases h2
    have h4 : pos q a ≠ pos q b := fun e => by
      have := pos_inj nq (hpq.mem_iff.1 ha) (hpq.mem_iff.1 hb) e
      subst this
      omega
    omega
  exact hpq.eq_of_pairwise (fun a b ha hb hab hba => by omega) h1 (pos_pairwise nq)
end

theorem lower_map (f g : Int → Int) (x : Int) (t : List Int) : lower f (g x) (t.map g) = lower (fun z => f (g z)) x t := by
  unfold lower; rw [List.countP_map]; rfl
theorem invTo_map (f g : Int → Int) (S : List Int) (k : Nat) (hk : k ≤ S.length) : invTo f (S.map g) k = invTo (fun z => f (g z)) S k := by
  induction k with
  | zero => rfl
  | succ k ih =>
    simp only [invTo]
    have e : (S.map g).getD k 0 = g (S.getD k 0) := by
      rw [getD_get (by simp; omega), getD_get (by omega), List.getElem_map]
    rw [ih (by omega), e, ← List.map_drop, lower_map]
theorem lower_congr {f f' : Int → Int} {x : Int} {t : List Int} (hx : f x = f' x) (h : ∀ y ∈ t, f y = f' y) : lower f x t = lower f' x t := by
  unfold lower
  exact List.countP_congr (fun y hy => by rw [h y hy, hx])
theorem invTo_congr {f f' : Int → Int} {S : List Int} (h : ∀ y ∈ S, f y = f' y) (k : Nat) (hk : k ≤ S.length) : invTo f S k = invTo f' S k := by
  induction k with
  | zero => rfl
  | succ k ih =>
    simp only [invTo]
    rw [ih (by omega), lower_congr (h _ (getD_mem S k (by omega))) (fun y hy => h y (List.mem_of_mem_drop hy))]
theorem as_map (p : List Int) : p = (sides p.length).map (fun z => p.getD z.toNat 0) := by
  apply List.ext_getElem
  · simp [sides_len]
  · intro i h1 h2
    simp [sides, List.getElem?_eq_getElem h1]
/-- The distance by places alone: τ tells at which place of q that which stands at a place of p lies. -/
theorem inv_places {p q : List Int} {n : Nat} (hl : p.length = n) (τ : Int → Int) (h : ∀ k, k < n → pos q (p.getD k 0) = τ k) : inv p q = invTo τ (sides n) n := by
  unfold inv
  subst hl
  have e : invTo (atTo q q.length) p p.length = invTo (atTo q q.length) ((sides p.length).map (fun z => p.getD z.toNat 0)) p.length := by rw [← as_map]
  rw [e, invTo_map _ _ _ _ (by rw [sides_len]; exact Nat.le_refl _)]
  refine invTo_congr (fun y hy => ?_) _ (by rw [sides_len]; exact Nat.le_refl _)
  have hy := mem_sides.1 hy
  have := h y.toNat (by omega)
  rw [show ((y.toNat : Nat) : Int) = y by omega] at this
  exact this
end Fm
/-
  All orders, one after another: lists of ints alone, no Go text.
-/
namespace Fm
set_option linter.unusedVariables false

/-- All orders of the given ones: each at the front, ahead of all orders of the others (k: how many there are). -/
def perms : Nat → List Int → List (List Int)
  | 0, _ => [[]]
  | k + 1, S => (List.range S.length).flatMap fun i => (perms k (S.eraseIdx i)).map (S.getD i 0 :: ·)

theorem mem_perms : ∀ (k : Nat) (S p : List Int), S.length = k → (p ∈ perms k S ↔ p.Perm S) := by
  intro k
  induction k with
  | zero =>
    intro S p hS
    have := List.eq_nil_of_length_eq_zero hS
    subst this
    simp [perms]
  | succ k ih =>
    intro S p hS
    simp only [perms, List.mem_flatMap, List.mem_range, List.mem_map]
    constructor
    · rintro ⟨i, hi, q, hq, rfl⟩
      have h1 := (ih (S.eraseIdx i) q (by rw [List.length_eraseIdx, if_pos hi]; omega)).1 hq
      exact (List.Perm.cons _ h1).trans (eraseIdx_perm S i hi)
    · intro hp
      cases p with
      | nil =>
        have := hp.length_eq
        simp at this
        omega
      | cons x q =>
        have hx : x ∈ S := hp.mem_iff.1 (by simp)
        obtain ⟨i, hi, rfl⟩ := List.getElem_of_mem hx
        refine ⟨i, hi, q, (ih (S.eraseIdx i) q (by rw [List.length_eraseIdx, if_pos hi]; omega)).2 ?_, by rw [getD_get hi]⟩
        have h2 := (hp.trans (eraseIdx_perm S i hi).symm)
        rw [getD_get hi] at h2
        exact List.Perm.cons_inv h2

/-- One above the last place k below the given one with p at k not above p at k + 1. -/
def scanI (p : List Int) : Nat → Nat
  | 0 => 0
  | k + 1 => if p.getD (k + 1) 0 < p.getD k 0 then scanI p k else k + 1
/-- The last place, not above the given one, at which p is not below x. -/
def scanJ (p : List Int) (x : Int) : Nat → Nat
  | 0 => 0
  | k + 1 => if p.getD (k + 1) 0 < x then scanJ p x k else k + 1
def exch (p : List Int) (i j : Nat) : List Int := (p.set i (p.getD j 0)).set j (p.getD i 0)
def turnTail (p : List Int) (k : Nat) : List Int := p.take k ++ (p.drop k).reverse
/-- The next order, if there is one. -/
def nxt (p : List Int) : Option (List Int) :=
  match scanI p (p.length - 1) with
  | 0 => none
  | i + 1 => some (turnTail (exch p i (scanJ p (p.getD i 0) (p.length - 1))) (i + 1))

def chainOk : List (List Int) → Bool
  | [] => true
  | x :: t => (match t with | [] => (nxt x == none) | y :: _ => (nxt x == some y)) && chainOk t

/-- How slices.Compare orders two lists. -/
def cmpL : List Int → List Int → Int
  | [], [] => 0
  | [], _ :: _ => -1
  | _ :: _, [] => 1
  | x :: a, y :: b => if x < y then -1 else if y < x then 1 else cmpL a b
def risingOk : List (List Int) → Bool
  | [] => true
  | x :: t => (match t with | [] => true | y :: _ => (cmpL x y == -1)) && risingOk t

def allO (n : Nat) : List (List Int) := perms n (sides n)
def fact : Nat → Nat
  | 0 => 1
  | k + 1 => fact k * (k + 1)
def allOk (n : Nat) : Bool := chainOk (allO n) && risingOk (allO n) && ((allO n).length == fact n) && ((allO n).head? == some (sides n))

theorem allOk_1 : allOk 1 = true := by decide +kernel
theorem allOk_2 : allOk 2 = true := by decide +kernel
theorem allOk_3 : allOk 3 = true := by decide +kernel
theorem allOk_4 : allOk 4 = true := by decide +kernel
theorem allOk_5 : allOk 5 = true := by decide +kernel
theorem allOk_6 : allOk 6 = true := by decide +kernel
theorem allOk_any {n : Nat} (h1 : 1 ≤ n) (h6 : n ≤ 6) : allOk n = true := by
  match n, h1, h6 with
  | 1, _, _ => exact allOk_1
  | 2, _, _ => exact allOk_2
  | 3, _, _ => exact allOk_3
  | 4, _, _ => exact allOk_4
  | 5, _, _ => exact allOk_5
  | 6, _, _ => exact allOk_6

theorem chain_at : ∀ (L : List (List Int)) (k : Nat), chainOk L = true → k < L.length → nxt (L.getD k []) = L[k + 1]? := by
  intro L
  induction L with
  | nil => intro k _ hk; simp at hk
  | cons x t ih =>
    intro k h hk
    simp only [chainOk, Bool.and_eq_true] at h
    cases k with
    | zero =>
      cases t with
      | nil => simpa using h.1
      | cons y t => simpa using h.1
    | succ k =>
      have := ih k h.2 (by simpa using hk)
      simpa using this
theorem rising_at : ∀ (L : List (List Int)) (k : Nat), risingOk L = true → k + 1 < L.length → cmpL (L.getD k []) (L.getD (k + 1) []) = -1 := by
  intro L
  induction L with
  | nil => intro k _ hk; simp at hk
  | cons x t ih =>
    intro k h hk
    simp only [risingOk, Bool.and_eq_true] at h
    cases k with
    | zero =>
      cases t with
      | nil => simp at hk
      | cons y t => simpa using h.1
    | succ k =>
      have := ih k h.2 (by simpa using hk)
      simpa using this
section
variable {n : Nat} (h1 : 1 ≤ n) (h6 : n ≤ 6)
include h1 h6
theorem allO_next {k : Nat} (hk : k < (allO n).length) : nxt ((allO n).getD k []) = (allO n)[k + 1]? := by
  have := allOk_any h1 h6
  simp only [allOk, Bool.and_eq_true] at this
  exact chain_at _ k this.1.1.1 hk
theorem allO_rising {k : Nat} (hk : k + 1 < (allO n).length) : cmpL ((allO n).getD k []) ((allO n).getD (k + 1) []) = -1 := by
  have := allOk_any h1 h6
  simp only [allOk, Bool.and_eq_true] at this
  exact rising_at _ k this.1.1.2 hk
theorem allO_len : (allO n).length = fact n := by
  have := allOk_any h1 h6
  simp only [allOk, Bool.and_eq_true] at this
  simpa using this.1.2
theorem allO_head : (allO n).getD 0 [] = sides n := by
  have := allOk_any h1 h6
  simp only [allOk, Bool.and_eq_true] at this
  have h2 : (allO n).head? = some (sides n) := by simpa using this.2
  cases h : allO n with
  | nil => rw [h] at h2; cases h2
  | cons x t => rw [h] at h2; simpa using h2
end
theorem fact_le {n : Nat} (h6 : n ≤ 6) : fact n ≤ 720 := by
  match n, h6 with
  | 0, _ => decide +kernel
  | 1, _ => decide +kernel
  | 2, _ => decide +kernel
  | 3, _ => decide +kernel
  | 4, _ => decide +kernel
  | 5, _ => decide +kernel
  | 6, _ => decide +kernel
theorem allO_le {n : Nat} (h1 : 1 ≤ n) (h6 : n ≤ 6) : (allO n).length ≤ 720 := by rw [allO_len h1 h6]; exact fact_le h6
theorem nxt_none {p : List Int} (h : nxt p = none) : scanI p (p.length - 1) = 0 := by
  unfold nxt at h
  split at h
  · assumption
  · cases h
theorem nxt_some {p q : List Int} (h : nxt p = some q) : ∃ i, scanI p (p.length - 1) = i + 1 ∧ q = turnTail (exch p i (scanJ p (p.getD i 0) (p.length - 1))) (i + 1) := by
  unfold nxt at h
  split at h
  · cases h
  · rename_i i hi
    injection h with h
    exact ⟨i, hi, h.symm⟩
theorem mem_allO {n : Nat} {p : List Int} : p ∈ allO n ↔ p.Perm (sides n) := mem_perms n (sides n) p (sides_len n)
theorem fact_ge (k : Nat) : 1 ≤ fact k := by
  induction k with
  | zero => exact Nat.le_refl _
  | succ k ih => simp only [fact]; exact Nat.le_trans ih (Nat.le_mul_of_pos_right _ (by omega))
theorem perms_len : ∀ (k : Nat) (S : List Int), S.length = k → (perms k S).length = fact k := by
  intro k
  induction k with
  | zero => intro S _; rfl
  | succ k ih =>
    intro S hS
    simp only [perms, fact]
    rw [List.length_flatMap]
    have e : (List.range S.length).map (fun i => ((perms k (S.eraseIdx i)).map (S.getD i 0 :: ·)).length) = (List.range S.length).map (fun _ => fact k) := by
      apply List.map_congr_left
      intro i hi
      have hi := List.mem_range.1 hi
      rw [List.length_map, ih _ (by rw [List.length_eraseIdx, if_pos hi]; omega)]
    rw [e, hS, List.map_const', List.length_range, List.sum_replicate_nat, Nat.mul_comm]
/-- Those whose front is one of the first i. -/
def permsTo (k : Nat) (S : List Int) (i : Nat) : List (List Int) := (List.range i).flatMap fun j => (perms k (S.eraseIdx j)).map (S.getD j 0 :: ·)
theorem permsTo_succ (k : Nat) (S : List Int) (i : Nat) : permsTo k S (i + 1) = permsTo k S i ++ (perms k (S.eraseIdx i)).map (S.getD i 0 :: ·) := by
  simp [permsTo, List.range_succ, List.flatMap_append]
theorem permsTo_len (k : Nat) (S : List Int) (hS : S.length = k + 1) (i : Nat) (hi : i ≤ k + 1) : (permsTo k S i).length = i * fact k := by
  induction i with
  | zero => simp [permsTo]
  | succ i ih =>
    rw [permsTo_succ, List.length_append, ih (by omega), List.length_map, perms_len k _ (by rw [List.length_eraseIdx, if_pos (by omega)]; omega), Nat.succ_mul]
theorem perms_succ (k : Nat) (S : List Int) (hS : S.length = k + 1) : perms (k + 1) S = permsTo k S (k + 1) := by simp only [perms, permsTo, hS]
theorem fact_mono {k n : Nat} (h : k ≤ n) : fact k ≤ fact n := by
  induction n with
  | zero => obtain rfl : k = 0 := by omega
            exact Nat.le_refl _
  | succ n ih =>
    by_cases hk : k = n + 1
    · subst hk; exact Nat.le_refl _
    · have h2 := ih (by omega)
      have h3 : fact n * 1 ≤ fact n * (n + 1) := Nat.mul_le_mul_left _ (by omega)
      simp only [fact]
      omega
end Fm
/-
  Words of our own on slices of ints in memory, over any program: a slice that reads as a list of ints, and how that is kept. Nothing here is a statement about the Go text.
-/
namespace Fm
open Go Go.RowKit
set_option linter.unusedVariables false

/-- The list of ints as cells. -/
def I (l : List Int) : List Value := l.map (Value.int .i64)
theorem I_len (l : List Int) : (I l).length = l.length := by unfold I; simp

/-- The slice of length n at a reads in w as the ints l; what it reads lies below block B. -/
def Rd (w : World) (B : Nat) (a : Option Addr) (n : Nat) (l : List Int) : Prop :=
  l.length = n ∧ (0 < n → ∃ b o, a = some ⟨b, o, none⟩ ∧ b < B ∧ ∀ j, j < n → w.cell? ⟨b, o + j, none⟩ = some (.int .i64 (l.getD j 0)))

section
variable {w w' : World} {B B' n : Nat} {a : Option Addr} {l : List Int}

theorem Rd.nil_ : Rd w B a 0 [] := ⟨rfl, fun h => absurd h (by omega)⟩
theorem Rd.keep (h : Rd w B a n l) (hk : ∀ p : Addr, p.block < B → w'.cell? p = w.cell? p) : Rd w' B a n l :=
  ⟨h.1, fun hn => by
    obtain ⟨b, o, e, hb, hc⟩ := h.2 hn
    exact ⟨b, o, e, hb, fun j hj => (hk _ hb).trans (hc j hj)⟩⟩
theorem Rd.more (h : Rd w B a n l) (hB : B ≤ B') : Rd w B' a n l :=
  ⟨h.1, fun hn => by
    obtain ⟨b, o, e, hb, hc⟩ := h.2 hn
    exact ⟨b, o, e, by omega, hc⟩⟩
theorem Rd.below (h : Rd w B a n l) (hb : Below B' w w') (hB : B ≤ B') : Rd w' B a n l := h.keep fun p hp => hb.cell (by omega)
theorem Rd.drewN (h : Rd w B a n l) (k : Nat) : Rd (w.drewN k) B a n l := h
theorem Rd.drew (h : Rd w B a n l) : Rd w.drew B a n l := h
theorem Rd.alloc (h : Rd w B a n l) (hB : B ≤ w.heap.size) (o : Obj) : Rd (w.alloc o) B a n l := h.keep fun p hp => World.cell?_alloc_lt w o p (by omega)
theorem Rd.at_ (h : Rd w B a n l) {k : Nat} (hk : k < n) : ∃ b o, a = some ⟨b, o, none⟩ ∧ b < B ∧ w.cell? ⟨b, o + k, none⟩ = some (.int .i64 (l.getD k 0)) := by
  obtain ⟨b, o, e, hb, hc⟩ := h.2 (by omega)
  exact ⟨b, o, e, hb, hc k hk⟩
theorem Rd.grown (h : Rd w B a n l) {row : Option Nat} (hg : w.grownBy w' row) (hB : B ≤ w.heap.size) (hr : ∀ g, row = some g → B ≤ g) : Rd w' B a n l :=
  h.keep fun p hp => World.cell?_of_block (hg.block p.block (by omega) (fun e => by have := hr _ e.symm; omega))

theorem own_form {base : Nat} {e : TypeId} {v : Value} (h : w.ownsRow base e 1 v n (I l)) (hn : 0 < n) :
    ∃ g cap, v = .slice (some ⟨g, 0, none⟩) n cap ∧ base ≤ g ∧ g < w.heap.size ∧ n ≤ cap ∧ cap ≤ maxLen ∧ ∀ j, j < n → w.cell? ⟨g, j, none⟩ = some (.int .i64 (l.getD j 0)) := by
  obtain ⟨hl, h⟩ := h
  rcases h with ⟨_, h0⟩ | ⟨g, cap, cur, rfl, hb, hg, hnc, hm, hsz, ht⟩
  · omega
  · refine ⟨g, cap, rfl, hb, (Array.getElem?_eq_some_iff.1 hg).1, hnc, hm, fun j hj => ?_⟩
    rw [cell_of_row w g j cur e (0, 0) hg]
    have hll : l.length = n := by simpa [I_len] using hl
    have h1 : (cur.toList.take (n * 1))[j]? = (I l)[j]? := by rw [ht]
    rw [List.getElem?_take, if_pos (by omega)] at h1
    rw [← Array.getElem?_toList, h1]; unfold I; rw [List.getElem?_map, List.getElem?_eq_getElem (by omega), List.getD_eq_getElem?_getD, List.getElem?_eq_getElem (by omega)]
    rfl

theorem own_len {base : Nat} {e : TypeId} {v : Value} (h : w.ownsRow base e 1 v n (I l)) : l.length = n := by
  have := h.1; simpa [I_len] using this

theorem Rd.of_own {base c : Nat} {e : TypeId} (h : w.ownsRow base e 1 (.slice a n c) n (I l)) : Rd w w.heap.size a n l := by
  refine ⟨own_len h, fun hn => ?_⟩
  obtain ⟨g, cap, hv, _, hlt, _, _, hc⟩ := own_form h hn
  injection hv with hv
  exact ⟨g, 0, hv, hlt, fun j hj => by rw [Nat.zero_add]; exact hc j hj⟩

/-- Whatever is owned is a slice of that length. -/
theorem own_slice {base : Nat} {e : TypeId} {v : Value} (h : w.ownsRow base e 1 v n (I l)) : ∃ a c, v = .slice a n c ∧ n ≤ c ∧ c ≤ maxLen := by
  rcases h.2 with ⟨rfl, rfl⟩ | ⟨g, cap, cur, rfl, _, _, h1, h2, _⟩
  · exact ⟨none, 0, rfl, Nat.le_refl _, by unfold maxLen; omega⟩
  · exact ⟨_, cap, rfl, h1, h2⟩

theorem own_below {base : Nat} {e : TypeId} {v : Value} {xs : List Value} {size : Nat} (h : w.ownsRow base e size v n xs) (hb : Below B w w') (hB : w.heap.size ≤ B) : w'.ownsRow base e size v n xs := by
  refine ⟨h.1, ?_⟩
  rcases h.2 with hn | ⟨g, cap, cur, rfl, h1, hg, r⟩
  · exact .inl hn
  · exact .inr ⟨g, cap, cur, rfl, h1, (hb.block g (by have := (Array.getElem?_eq_some_iff.1 hg).1; omega)).trans hg, r⟩

theorem own_mono {base base' : Nat} {e : TypeId} {v : Value} {xs : List Value} {size : Nat} (h : w.ownsRow base e size v n xs) (hb : base' ≤ base) : w.ownsRow base' e size v n xs := by
  refine ⟨h.1, ?_⟩
  rcases h.2 with hn | ⟨g, cap, cur, rfl, h1, r⟩
  · exact .inl hn
  · exact .inr ⟨g, cap, cur, rfl, by omega, r⟩

theorem below_drewN {a w : World} (h : Below B a w) (k : Nat) : Below B a (w.drewN k) := ⟨h.os, h.tape, h.output, h.size, h.block⟩

/-- A new block that is just these ints, as a slice. -/
theorem own_lit (w : World) (t : TypeId) (l : List Int) (cs : Array Value) (hcs : cs = (I l).toArray) (hm : l.length ≤ maxLen) :
    (w.alloc (.cells cs t)).ownsRow w.heap.size t 1 (.slice (some ⟨w.heap.size, 0, none⟩) l.length l.length) l.length (I l) := by
  subst hcs
  refine ⟨by simp [I_len], .inr ⟨w.heap.size, l.length, _, rfl, Nat.le_refl _, heap_alloc_new w _, Nat.le_refl _, hm, by simp [I_len], ?_⟩⟩
  rw [List.take_of_length_le (by simp [I_len])]
theorem Rd.lit (w : World) (t : TypeId) (l : List Int) (cs : Array Value) (hcs : cs = (I l).toArray) :
    Rd (w.alloc (.cells cs t)) (w.heap.size + 1) (some ⟨w.heap.size, 0, none⟩) l.length l := by
  subst hcs
  refine ⟨rfl, fun _ => ⟨w.heap.size, 0, rfl, by omega, fun j hj => ?_⟩⟩
  rw [Nat.zero_add, World.cell?_alloc_new]
  simp [hj, I]

theorem Rd.of_cells {x : Addr} {zs : List Int} {len : Nat} (hl : len ≤ zs.length) (hc : ∀ i, i < zs.length → w.cell? (x.add i) = some (.int .i64 (zs.getD i 0))) : Rd w w.heap.size (some x) len (zs.take len) := by
  refine ⟨by rw [List.length_take]; omega, fun hn => ?_⟩
  have h0 := hc 0 (by omega)
  have e0 : x.add 0 = x := by simp [Addr.add]
  rw [e0] at h0
  have hlt := World.block_lt_of_cell? w x h0
  obtain ⟨b, o, sp⟩ := x
  have hsp : sp = none := by
    cases sp with
    | none => rfl
    | some s =>
      exfalso
      simp only [World.cell?] at h0
      split at h0 <;> simp at h0
  subst hsp
  refine ⟨b, o, rfl, hlt, fun j hj => ?_⟩
  have h1 := hc j (by omega)
  have e1 : (⟨b, o, none⟩ : Addr).add j = ⟨b, o + j, none⟩ := by unfold Addr.add; split <;> simp_all
  rw [e1] at h1
  rw [h1]
  simp [List.getD_eq_getElem?_getD, hj]
end
theorem Rd.cutR {w : World} {B b o n : Nat} {S : List Int} (h : Rd w B (some ⟨b, o, none⟩) n S) (k : Nat) (hk : k ≤ n) : Rd w B (some ⟨b, o, none⟩) k (S.take k) := by
  refine ⟨by rw [List.length_take, h.1]; omega, fun hk0 => ?_⟩
  obtain ⟨b', o', e, hb, hc⟩ := h.2 (by omega)
  injection e with e; injection e with e1 e2; subst e1; subst e2
  exact ⟨b, o, rfl, hb, fun j hj => by rw [hc j (by omega)]; simp [List.getD_eq_getElem?_getD, hj]⟩
theorem Rd.cutL {w : World} {B b o n : Nat} {S : List Int} (h : Rd w B (some ⟨b, o, none⟩) n S) (k : Nat) (hk : k ≤ n) : Rd w B (some ⟨b, o + k, none⟩) (n - k) (S.drop k) := by
  refine ⟨by rw [List.length_drop, h.1], fun hk0 => ?_⟩
  obtain ⟨b', o', e, hb, hc⟩ := h.2 (by omega)
  injection e with e; injection e with e1 e2; subst e1; subst e2
  exact ⟨b, o + k, rfl, hb, fun j hj => by rw [Nat.add_assoc, hc (k + j) (by omega)]; simp [List.getD_eq_getElem?_getD, List.getElem?_drop]⟩


theorem grown_refl (w : World) (row : Option Nat) : w.grownBy w row := ⟨rfl, rfl, rfl, Nat.le_refl _, fun _ _ _ => rfl⟩
theorem grown_trans {a b c : World} {row : Option Nat} (h : a.grownBy b row) (k : b.grownBy c row) : a.grownBy c row :=
  ⟨k.os.trans h.os, k.tape.trans h.tape, k.output.trans h.output, Nat.le_trans h.size k.size, fun i hi hne => (k.block i (Nat.lt_of_lt_of_le hi h.size) hne).trans (h.block i hi hne)⟩

def setMany : List Value → Nat → List Value → List Value
  | xs, _, [] => xs
  | xs, o, v :: vs => setMany (xs.set o v) (o + 1) vs
theorem own_setCells {base g n cap : Nat} {e : TypeId} : ∀ (vs : List Value) (o : Nat) (w : World) (xs : List Value), w.ownsRow base e 1 (.slice (some ⟨g, 0, none⟩) n cap) n xs →
    (w.setCells g o vs).ownsRow base e 1 (.slice (some ⟨g, 0, none⟩) n cap) n (setMany xs o vs) ∧ w.grownBy (w.setCells g o vs) (some g) := by
  intro vs
  induction vs with
  | nil => intro o w xs h; exact ⟨h, grown_refl w _⟩
  | cons v vs ih =>
    intro o w xs h
    obtain ⟨h1, h2⟩ := h.stored o v
    obtain ⟨h3, h4⟩ := ih (o + 1) _ _ h1
    exact ⟨h3, grown_trans h2 h4⟩
theorem setMany_I (ys : List Int) : ∀ (o : Nat) (l : List Int), o + ys.length = l.length → setMany (I l) o (ys.map (Value.int .i64)) = I (l.take o ++ ys) := by
  induction ys with
  | nil =>
    intro o l h
    simp only [List.map_nil, setMany, List.append_nil]
    rw [List.take_of_length_le (by simp at h; omega)]
  | cons y ys ih =>
    intro o l h
    simp only [List.map_cons, setMany]
    have e1 : (I l).set o (.int .i64 y) = I (l.set o y) := by unfold I; rw [List.map_set]
    rw [e1, ih (o + 1) (l.set o y) (by simp at h ⊢; omega)]
    have e2 : (l.set o y).take (o + 1) = l.take o ++ [y] := by
      apply List.ext_getElem?
      intro j
      have hol : o < l.length := by simp at h; omega
      rw [List.getElem?_take, List.getElem?_set, List.getElem?_append, List.length_take, Nat.min_eq_left (by omega), List.getElem?_take]
      by_cases h1 : j < o
      · rw [if_pos (by omega), if_neg (by omega), if_pos h1, if_pos h1]
      · by_cases h2 : j = o
        · subst h2
          rw [if_pos (by omega), if_pos rfl, if_pos hol, if_neg h1, Nat.sub_self]; rfl
        · rw [if_neg (by omega), if_neg h1]
          have : j - o = (j - o - 1) + 1 := by omega
          rw [this]; simp
    rw [e2]
    simp

theorem own_cell {w : World} {base g n cap : Nat} {e : TypeId} {l : List Int} (hown : w.ownsRow base e 1 (.slice (some ⟨g, 0, none⟩) n cap) n (I l)) : ∀ j, j < n → w.cell? ⟨g, j, none⟩ = some (.int .i64 (l.getD j 0)) := by
  intro j hj
  obtain ⟨g', cap', hv, _, _, _, _, hc⟩ := own_form hown (by omega)
  injection hv with hv1
  injection hv1 with hv1
  injection hv1 with hv1
  subst hv1
  exact hc j hj

theorem putRow_grown {α : Type} [Inhabited α] (enc : α → Value) (w : World) (q g off : Nat) (d : Array α) : w.grownBy (Sort.putRow enc (Sort.ahead w q) g off d) (some g) := by
  refine ⟨rfl, rfl, rfl, by simp [Sort.putRow, Sort.mapBlock, Sort.ahead], fun k hk hne => ?_⟩
  have hkg : g ≠ k := fun e => hne (by rw [e])
  simp [Sort.putRow, Sort.mapBlock, Sort.ahead, Array.getElem?_modify, hkg]

theorem below_grow (w : World) (os : Array Obj) : Below w.heap.size w (Sort.grow w os) :=
  ⟨rfl, rfl, rfl, by simp [Sort.grow], fun k hk => by show (w.heap ++ os)[k]? = _; exact Array.getElem?_append_left hk⟩

theorem own_nil {w : World} {base n c : Nat} {a : Option Addr} {e : TypeId} {xs : List Value} (h : w.ownsRow base e 1 (.slice a n c) n xs) : a = none → c = 0 := by
  intro ha
  subst ha
  rcases h.2 with ⟨h, _⟩ | ⟨g, cap, cur, h, _⟩
  · injection h
  · injection h with h; cases h

theorem own_not {w : World} {B : Nat} {v : Value} {n : Nat} {xs : List Value} {e : TypeId} (h : w.ownsRow B e 1 v n xs) : ∀ k, v.ownBlock = some k → B ≤ k := fun k hk => (h.lt k hk).1

theorem zeros_at (w : World) (t : TypeId) (n : Nat) (cs : Array Value) (hcs : cs = (List.replicate n (Value.int .i64 0)).toArray) : ∀ j, j < n → (w.alloc (.cells cs t)).cell? ⟨w.heap.size, 0 + j, none⟩ = some (.int .i64 0) := by
  intro j hj
  subst hcs
  rw [Nat.zero_add, World.cell?_alloc_new]
  simp [hj]

theorem ret_true {b : Bool} (h : b = true) : Ending.returned (.bool b) = .returned (.bool true) := by rw [h]
end Fm
/-
  A sorted list that is 0, 1, 2 ..; pairs counted over alternatives: lists of ints alone, no Go text.
-/
namespace Fm
set_option linter.unusedVariables false

theorem perm_of_nodup_subset : ∀ (l m : List Int), l.Nodup → (∀ x ∈ l, x ∈ m) → l.length = m.length → l.Perm m := by
  intro l
  induction l with
  | nil => intro m _ _ hl; have := List.eq_nil_of_length_eq_zero hl.symm; subst this; exact List.Perm.refl _
  | cons a t ih =>
    intro m hn hs hl
    have ha := hs a (by simp)
    have hp := List.perm_cons_erase ha
    rw [List.nodup_cons] at hn
    have h1 : t.Perm (m.erase a) := by
      refine ih (m.erase a) hn.2 (fun x hx => ?_) ?_
      · have hne : x ≠ a := fun e => hn.1 (e ▸ hx)
        exact (List.mem_erase_of_ne hne).2 (hs x (by simp [hx]))
      · rw [List.length_erase_of_mem ha]; simp at hl; omega
    exact (List.Perm.cons a h1).trans hp.symm
theorem isOrd_perm {n : Nat} {l : List Int} (hl : l.length = n) (h : isOrd n l) : l.Perm (sides n) :=
  perm_of_nodup_subset l (sides n) h.2 (fun x hx => mem_sides.2 (h.1 x hx)) (by rw [hl, sides_len])
theorem isOrd_iff {n : Nat} {l : List Int} (hl : l.length = n) : isOrd n l ↔ l.Perm (sides n) := ⟨isOrd_perm hl, isOrd_of_perm⟩

theorem sides_getD {n j : Nat} (h : j < n) : (sides n).getD j 0 = j := by
  rw [getD_get (by rw [sides_len]; exact h)]; simp [sides]
theorem sides_sorted (n : Nat) : (sides n).Pairwise (fun a b => a ≤ b) := by
  rw [List.pairwise_iff_getElem]
  intro i j hi hj hij
  rw [sides_len] at hi hj
  rw [← getD_get (by rw [sides_len]; exact hi), ← getD_get (by rw [sides_len]; exact hj), sides_getD hi, sides_getD hj]
  omega
def sorted (l : List Int) : List Int := l.mergeSort fun x y => decide (x ≤ y)
theorem sorted_len (l : List Int) : (sorted l).length = l.length := by unfold sorted; exact List.length_mergeSort _
theorem sorted_sides {n : Nat} {l : List Int} : sorted l = sides n ↔ l.Perm (sides n) := by
  constructor
  · intro h
    rw [← h]
    exact (List.mergeSort_perm _ _).symm
  · intro h
    have hs : (sorted l).Pairwise (fun a b => a ≤ b) := by
      have := List.pairwise_mergeSort (le := fun x y : Int => decide (x ≤ y)) (fun a b c hab hbc => by simp at *; omega) (fun a b => by simp; omega) l
      exact this.imp (fun h => by simpa using h)
    refine List.Perm.eq_of_pairwise (fun a b _ _ hab hba => by omega) hs (sides_sorted n) ?_
    exact (List.mergeSort_perm _ _).trans h
/-- As far as the k-th, the list is 0, 1, 2 .. -/
theorem eq_sides {n : Nat} {l : List Int} (hl : l.length = n) (h : ∀ j, j < n → l.getD j 0 = j) : l = sides n := by
  apply List.ext_getElem
  · rw [hl, sides_len]
  · intro i h1 h2
    rw [← getD_get h1, ← getD_get h2, h i (by omega), sides_getD (by omega)]

/-- What plumeref.Between counts: the pairs y < x, x below k, that f and g rank differently. -/
def difs (f g : Int → Int) (x : Int) (t : List Int) : Nat := t.countP fun y => decide (f x < f y) != decide (g x < g y)
def btw (f g : Int → Int) : Nat → Nat
  | 0 => 0
  | k + 1 => btw f g k + difs f g k (sides k)
theorem difs_snoc (f g : Int → Int) (x y : Int) (t : List Int) : difs f g x (t ++ [y]) = difs f g x t + if (decide (f x < f y) != decide (g x < g y)) = true then 1 else 0 := by
  unfold difs
  rw [List.countP_append]
  by_cases h : (decide (f x < f y) != decide (g x < g y)) = true <;> simp [h]
theorem difs_le (f g : Int → Int) (x : Int) (t : List Int) : difs f g x t ≤ t.length := List.countP_le_length
theorem btw_le (f g : Int → Int) (k : Nat) : btw f g k ≤ k * k := by
  induction k with
  | zero => simp [btw]
  | succ k ih =>
    have h := difs_le f g k (sides k)
    rw [sides_len] at h
    simp only [btw]
    have h3 : (k + 1) * (k + 1) = k * k + k + k + 1 := by rw [Nat.succ_mul, Nat.mul_succ]; omega
    omega
theorem btw_tot (f g : Int → Int) (k : Nat) (hf : ∀ x ∈ sides k, ∀ y ∈ sides k, f x = f y → x = y) (hg : ∀ x ∈ sides k, ∀ y ∈ sides k, g x = g y → x = y) :
    btw g f k = tot (sides k) (fun x => tot (sides k) (fun y => dis f g x y)) := by
  induction k with
  | zero => rfl
  | succ k ih =>
    have hsub : ∀ x ∈ sides k, x ∈ sides (k + 1) := fun x hx => by rw [sides_succ]; exact List.mem_append_left _ hx
    have hk : (k : Int) ∈ sides (k + 1) := by rw [sides_succ]; simp
    have ih := ih (fun x hx y hy => hf x (hsub x hx) y (hsub y hy)) (fun x hx y hy => hg x (hsub x hx) y (hsub y hy))
    simp only [btw]
    rw [ih, sides_succ, tot_append, tot_cons, tot_nil]
    have e1 : tot (sides k) (fun x => tot (sides k ++ [(k : Int)]) (fun y => dis f g x y)) = tot (sides k) (fun x => tot (sides k) (fun y => dis f g x y)) + tot (sides k) (fun x => dis f g x k) := by
      rw [← tot_add]
      exact tot_congr (fun x _ => by rw [tot_append, tot_cons, tot_nil]; omega)
    have e2 : dis f g k k = 0 := by unfold dis; rw [if_neg (by omega)]
    rw [e1, tot_append, tot_cons, tot_nil, e2]
    have e3 : difs g f k (sides k) = tot (sides k) (fun x => dis f g x k) + tot (sides k) (fun y => dis f g k y) := by
      unfold difs
      rw [countP_tot, ← tot_add]
      refine tot_congr (fun y hy => ?_)
      have hne : y ≠ k := fun e => by have := (mem_sides.1 hy).2; omega
      have h1 : f y ≠ f k := fun e => hne (hf y (hsub y hy) k hk e)
      have h2 : g y ≠ g k := fun e => hne (hg y (hsub y hy) k hk e)
      unfold dis
      by_cases a : g k < g y <;> by_cases b : f k < f y
      · rw [if_neg (by simp [a, b]), if_neg (by omega), if_neg (by omega)]
      · rw [if_pos (by simp [a, b]), if_neg (by omega), if_pos (by omega)]
      · rw [if_pos (by simp [a, b]), if_pos (by omega), if_neg (by omega)]
      · rw [if_neg (by simp [a, b]), if_neg (by omega), if_neg (by omega)]
    rw [e3]
    omega
theorem btw_inv {n : Nat} {p q : List Int} (hp : p.Perm (sides n)) (hq : q.Perm (sides n)) : btw (pos p) (pos q) n = inv p q := by
  have np := hp.nodup_iff.2 (sides_nodup n)
  have nq := hq.nodup_iff.2 (sides_nodup n)
  rw [inv_on np hp]
  exact btw_tot (pos q) (pos p) n (fun x hx y hy e => pos_inj nq (hq.mem_iff.2 hx) (hq.mem_iff.2 hy) e) (fun x hx y hy e => pos_inj np (hp.mem_iff.2 hx) (hp.mem_iff.2 hy) e)
theorem inv_le {n : Nat} {p q : List Int} (hp : p.length = n) (hn : n ≤ 6) : inv p q ≤ 36 := by
  have h := invTo_le (atTo q q.length) p p.length
  rw [hp] at h
  have h2 : n * n ≤ 6 * 6 := Nat.mul_le_mul hn hn
  unfold inv; rw [hp]; omega
theorem map_set_at {n : Nat} (p : List Int) (k : Nat) {i : Nat} (hi : i < n) (hx : p.getD k 0 = i) : ((sides n).map (atTo p k)).set i (k : Int) = (sides n).map (atTo p (k + 1)) := by
  apply List.ext_getElem
  · simp
  · intro j h1 h2
    have hj : j < n := by simpa [sides_len] using h2
    rw [List.getElem_set, List.getElem_map, List.getElem_map, ← getD_get (by rw [sides_len]; exact hj), sides_getD hj]
    simp only [atTo]
    rw [hx]
    by_cases e : i = j
    · rw [if_pos e, if_pos (by omega)]
    · rw [if_neg e, if_neg (by omega)]
theorem btw_bound {f g : Int → Int} {k n : Nat} (hk : k ≤ n) (h6 : n ≤ 6) : btw f g k ≤ 36 := by
  have h := btw_le f g k
  have h2 : k * k ≤ 6 * 6 := Nat.mul_le_mul (by omega) (by omega)
  omega
end Fm
/-
  What package tally counts: lists of ints alone, no Go text.
-/
namespace Fm
set_option linter.unusedVariables false

/-- How many of V rank x before y. -/
def cnt (V : List (List Int)) (x y : Int) : Nat := V.countP fun p => decide (pos p x < pos p y)
theorem cnt_le (V : List (List Int)) (x y : Int) : cnt V x y ≤ V.length := List.countP_le_length
theorem cnt_snoc (V : List (List Int)) (p : List Int) (x y : Int) : cnt (V ++ [p]) x y = cnt V x y + if pos p x < pos p y then 1 else 0 := by
  unfold cnt
  rw [List.countP_append]
  by_cases h : pos p x < pos p y <;> simp [h]
def duelRow (n : Nat) (V : List (List Int)) (x : Int) : List Int := (sides n).map fun y => (cnt V x y : Int)
def duelsM (n : Nat) (V : List (List Int)) : List (List Int) := (sides n).map fun x => duelRow n V x
/-- A row of which the first j are counted, and the j-th over W. -/
def partRow (n : Nat) (V W : List (List Int)) (x : Int) (j : Nat) : List Int := (sides n).map fun (y : Int) => if y < (j : Int) then (cnt V x y : Int) else if y = (j : Int) then (cnt W x y : Int) else 0
/-- A matrix of which k rows are whole, the next one is given, and the others are not there yet. -/
def partM (n : Nat) (V : List (List Int)) (k : Nat) (row : List Int) : List (List Int) := (sides k).map (fun x => duelRow n V x) ++ row :: List.replicate (n - (k + 1)) []
def partM0 (n : Nat) (V : List (List Int)) (k : Nat) : List (List Int) := (sides k).map (fun x => duelRow n V x) ++ List.replicate (n - k) []

theorem map_sides_getD (n : Nat) (f : Int → Int) {j : Nat} (h : j < n) : ((sides n).map f).getD j 0 = f j := by
  rw [getD_get (by rw [List.length_map, sides_len]; exact h), List.getElem_map, ← getD_get (by rw [sides_len]; exact h), sides_getD h]
theorem map_sides_set (n : Nat) (f g : Int → Int) (j : Nat) (hj : j < n) (z : Int) (hz : g j = z) (h : ∀ y : Int, y ≠ j → f y = g y) : ((sides n).map f).set j z = (sides n).map g := by
  apply List.ext_getElem
  · simp
  · intro i h1 h2
    have hi : i < n := by simpa [sides_len] using h2
    rw [List.getElem_set, List.getElem_map, List.getElem_map, ← getD_get (by rw [sides_len]; exact hi), sides_getD hi]
    by_cases e : j = i
    · subst e; rw [if_pos rfl, hz]
    · rw [if_neg e, h i (by omega)]
theorem map_sides_congr (n : Nat) {f g : Int → Int} (h : ∀ j : Nat, j < n → f j = g j) : (sides n).map f = (sides n).map g := by
  apply List.map_congr_left
  intro x hx
  have hx := mem_sides.1 hx
  have := h x.toNat (by omega)
  rwa [show ((x.toNat : Nat) : Int) = x by omega] at this
theorem partRow_len (n : Nat) (V W : List (List Int)) (x : Int) (j : Nat) : (partRow n V W x j).length = n := by simp [partRow, sides_len]
theorem partRow_zero (n : Nat) (V : List (List Int)) (x : Int) : List.replicate n 0 = partRow n V [] x 0 := by
  unfold partRow
  apply List.ext_getElem
  · simp [sides_len]
  · intro i h1 h2
    have hi : i < n := by simpa using h1
    rw [List.getElem_replicate, List.getElem_map, ← getD_get (by rw [sides_len]; exact hi), sides_getD hi]
    rw [if_neg (by omega)]
    split <;> simp [cnt]
theorem partRow_at (n : Nat) (V W : List (List Int)) (x : Int) {j : Nat} (h : j < n) : (partRow n V W x j).getD j 0 = cnt W x j := by
  unfold partRow
  rw [map_sides_getD n _ h, if_neg (by omega), if_pos rfl]
theorem partRow_set (n : Nat) (V W W' : List (List Int)) (x : Int) {j : Nat} (h : j < n) : (partRow n V W x j).set j (cnt W' x j) = partRow n V W' x j := by
  unfold partRow
  refine map_sides_set n _ _ j h _ ?_ (fun y hy => ?_)
  · show (if (j : Int) < j then _ else if (j : Int) = j then _ else _) = _
    rw [if_neg (by omega), if_pos rfl]
  · by_cases h1 : y < j
    · rw [if_pos h1, if_pos h1]
    · rw [if_neg h1, if_neg h1, if_neg hy, if_neg hy]
theorem partRow_congr (n : Nat) (V W W' : List (List Int)) (x : Int) (j : Nat) (h : cnt W x j = cnt W' x j) : partRow n V W x j = partRow n V W' x j := by
  unfold partRow
  apply List.map_congr_left
  intro y _
  by_cases h1 : y < (j : Int)
  · rw [if_pos h1, if_pos h1]
  · by_cases h2 : y = (j : Int)
    · rw [if_neg h1, if_neg h1, if_pos h2, if_pos h2, h2, h]
    · rw [if_neg h1, if_neg h1, if_neg h2, if_neg h2]
theorem partRow_next (n : Nat) (V : List (List Int)) (x : Int) (j : Nat) : partRow n V V x j = partRow n V [] x (j + 1) := by
  unfold partRow
  refine map_sides_congr n (fun y hy => ?_)
  by_cases h1 : (y : Int) < j
  · rw [if_pos h1, if_pos (by omega)]
  · by_cases h2 : (y : Int) = j
    · rw [if_neg h1, if_pos h2, if_pos (by omega)]
    · rw [if_neg h1, if_neg h2, if_neg (by omega)]
      split <;> simp [cnt]
theorem partRow_end (n : Nat) (V : List (List Int)) (x : Int) : partRow n V [] x n = duelRow n V x := by
  unfold partRow duelRow
  refine map_sides_congr n (fun y hy => ?_)
  rw [if_pos (by omega)]
theorem partM_len (n : Nat) (V : List (List Int)) (k : Nat) (row : List Int) (h : k < n) : (partM n V k row).length = n := by simp [partM, sides_len]; omega
theorem partM0_len (n : Nat) (V : List (List Int)) (k : Nat) (h : k ≤ n) : (partM0 n V k).length = n := by simp [partM0, sides_len]; omega
theorem partM_getD (n : Nat) (V : List (List Int)) (k : Nat) (row : List Int) : (partM n V k row).getD k [] = row := by
  unfold partM
  rw [List.getD_eq_getElem?_getD, List.getElem?_append_right (by simp [sides_len])]
  simp [sides_len]
theorem partM_set (n : Nat) (V : List (List Int)) (k : Nat) (row row' : List Int) : (partM n V k row).set k row' = partM n V k row' := by
  unfold partM
  rw [List.set_append_right _ _ (by simp [sides_len])]
  simp [sides_len]
theorem partM0_set (n : Nat) (V : List (List Int)) (k : Nat) (row : List Int) (h : k < n) : (partM0 n V k).set k row = partM n V k row := by
  unfold partM0 partM
  rw [List.set_append_right _ _ (by simp [sides_len]), show n - k = (n - (k + 1)) + 1 by omega, List.replicate_succ]
  simp [sides_len]
theorem partM_done (n : Nat) (V : List (List Int)) (k : Nat) : partM n V k (duelRow n V k) = partM0 n V (k + 1) := by
  unfold partM partM0
  rw [sides_succ, List.map_append, List.append_assoc]
  rfl
theorem partM0_end (n : Nat) (V : List (List Int)) : partM0 n V n = duelsM n V := by
  unfold partM0 duelsM
  rw [Nat.sub_self, List.replicate_zero, List.append_nil]
theorem partM0_zero (n : Nat) (V : List (List Int)) : List.replicate n [] = partM0 n V 0 := by simp [partM0, sides]

/-- How many of V have x first; the points of x. -/
def fst1 (V : List (List Int)) (x : Int) : Nat := V.countP fun p => decide (pos p x = 0)
def pts (n : Nat) : List (List Int) → Int → Int
  | [], _ => 0
  | p :: V, x => ((n : Int) - 1 - pos p x) + pts n V x
theorem fst1_snoc (V : List (List Int)) (p : List Int) (x : Int) : fst1 (V ++ [p]) x = fst1 V x + if pos p x = 0 then 1 else 0 := by
  unfold fst1
  rw [List.countP_append]
  by_cases h : pos p x = 0 <;> simp [h]
theorem fst1_le (V : List (List Int)) (x : Int) : fst1 V x ≤ V.length := List.countP_le_length
theorem pts_snoc (n : Nat) (V : List (List Int)) (p : List Int) (x : Int) : pts n (V ++ [p]) x = pts n V x + ((n : Int) - 1 - pos p x) := by
  induction V with
  | nil => simp [pts]
  | cons q V ih => simp only [List.cons_append, pts]; rw [ih]; omega
theorem pos_range {n : Nat} {p : List Int} (hp : p.Perm (sides n)) {x : Nat} (hx : x < n) : 0 ≤ pos p x ∧ pos p x < n := by
  have hm : (x : Int) ∈ p := hp.mem_iff.2 (mem_sides.2 ⟨by omega, by omega⟩)
  obtain ⟨k, hk, _, h⟩ := pos_mem (hp.nodup_iff.2 (sides_nodup n)) hm
  have := hp.length_eq
  rw [sides_len] at this
  omega
theorem pts_range {n : Nat} {V : List (List Int)} (hV : ∀ p ∈ V, p.Perm (sides n)) {x : Nat} (hx : x < n) : 0 ≤ pts n V x ∧ pts n V x ≤ V.length * n := by
  induction V with
  | nil => simp [pts]
  | cons p V ih =>
    have h1 := pos_range (hV p (by simp)) hx
    have h2 := ih (fun q hq => hV q (by simp [hq]))
    simp only [pts, List.length_cons]
    have h3 : ((V.length + 1 : Nat) : Int) * n = V.length * n + n := by rw [Int.natCast_add, Int.add_mul]; simp
    omega
def firstsL (n : Nat) (V : List (List Int)) : List Int := (sides n).map fun x => (fst1 V x : Int)
def pointsL (n : Nat) (V : List (List Int)) : List Int := (sides n).map fun x => pts n V x
/-- Of which the first j are counted over W already, the others over V. -/
def mixL (n : Nat) (f g : Int → Int) (j : Nat) : List Int := (sides n).map fun (x : Int) => if x < (j : Int) then g x else f x
theorem mixL_len (n : Nat) (f g : Int → Int) (j : Nat) : (mixL n f g j).length = n := by simp [mixL, sides_len]
theorem mixL_zero (n : Nat) (f g : Int → Int) : mixL n f g 0 = (sides n).map f := map_sides_congr n (fun j hj => by rw [if_neg (by omega)])
theorem mixL_end (n : Nat) (f g : Int → Int) : mixL n f g n = (sides n).map g := map_sides_congr n (fun j hj => by rw [if_pos (by omega)])
theorem mixL_at (n : Nat) (f g : Int → Int) {j : Nat} (h : j < n) : (mixL n f g j).getD j 0 = f j := by
  unfold mixL; rw [map_sides_getD n _ h, if_neg (by omega)]
theorem mixL_set (n : Nat) (f g : Int → Int) {j : Nat} (h : j < n) : (mixL n f g j).set j (g j) = mixL n f g (j + 1) := by
  unfold mixL
  refine map_sides_set n _ _ j h _ ?_ (fun y hy => ?_)
  · show (if (j : Int) < ((j + 1 : Nat) : Int) then _ else _) = _
    rw [if_pos (by omega)]
  · by_cases h1 : y < (j : Int)
    · rw [if_pos h1, if_pos (by omega)]
    · rw [if_neg h1, if_neg (by omega)]
theorem mixL_same (n : Nat) (f g : Int → Int) {j : Nat} (h : f j = g j) : mixL n f g j = mixL n f g (j + 1) := by
  unfold mixL
  apply List.map_congr_left
  intro y _
  by_cases h1 : y < (j : Int)
  · rw [if_pos h1, if_pos (by omega)]
  · by_cases h2 : y = (j : Int)
    · rw [if_neg h1, if_pos (by omega), h2, h]
    · rw [if_neg h1, if_neg (by omega)]
end Fm
/-
  What plumeref.WinsOf counts: lists of ints alone, no Go text.
-/
namespace Fm
set_option linter.unusedVariables false

def sg (d : Int) : Int := if 0 < d then 1 else if d < 0 then -1 else 0
def ent (M : List (List Int)) (x y : Nat) : Int := (M.getD x []).getD y 0
/-- Duels won less duels lost against the first j; the greatest defeat by one of them. -/
def winTo (M : List (List Int)) (x : Nat) : Nat → Int
  | 0 => 0
  | j + 1 => winTo M x j + sg (ent M x j - ent M j x)
def worstTo (M : List (List Int)) (x : Nat) : Nat → Int
  | 0 => 0
  | j + 1 => max (worstTo M x j) (-(ent M x j - ent M j x))
theorem winTo_bd (M : List (List Int)) (x j : Nat) : -(j : Int) ≤ winTo M x j ∧ winTo M x j ≤ j := by
  induction j with
  | zero => simp [winTo]
  | succ j ih =>
    have h : -1 ≤ sg (ent M x j - ent M j x) ∧ sg (ent M x j - ent M j x) ≤ 1 := by
      unfold sg; split
      · omega
      · split <;> omega
    simp only [winTo]
    omega
theorem worstTo_nonneg (M : List (List Int)) (x j : Nat) : 0 ≤ worstTo M x j := by
  induction j with
  | zero => simp [worstTo]
  | succ j ih => simp only [worstTo]; omega
def winsL (n : Nat) (M : List (List Int)) : List Int := (sides n).map fun x => winTo M x.toNat n
def worstL (n : Nat) (M : List (List Int)) : List Int := (sides n).map fun x => worstTo M x.toNat n
/-- The first k by f, the k-th is v, the others 0. -/
def upL (n : Nat) (f : Nat → Int) (k : Nat) (v : Int) : List Int := (sides n).map fun (x : Int) => if x < (k : Int) then f x.toNat else if x = (k : Int) then v else 0
theorem upL_len (n : Nat) (f : Nat → Int) (k : Nat) (v : Int) : (upL n f k v).length = n := by simp [upL, sides_len]
theorem upL_at (n : Nat) (f : Nat → Int) {k : Nat} (v : Int) (h : k < n) : (upL n f k v).getD k 0 = v := by
  unfold upL; rw [map_sides_getD n _ h, if_neg (by omega), if_pos rfl]
theorem upL_set (n : Nat) (f : Nat → Int) {k : Nat} (v v' : Int) (h : k < n) : (upL n f k v).set k v' = upL n f k v' := by
  unfold upL
  refine map_sides_set n _ _ k h _ ?_ (fun y hy => ?_)
  · show (if (k : Int) < k then _ else if (k : Int) = k then _ else _) = _
    rw [if_neg (by omega), if_pos rfl]
  · by_cases h1 : y < (k : Int)
    · rw [if_pos h1, if_pos h1]
    · rw [if_neg h1, if_neg h1, if_neg hy, if_neg hy]
theorem upL_next (n : Nat) (f : Nat → Int) (k : Nat) : upL n f k (f k) = upL n f (k + 1) 0 := by
  unfold upL
  refine map_sides_congr n (fun y hy => ?_)
  by_cases h1 : (y : Int) < k
  · rw [if_pos h1, if_pos (by omega)]
  · by_cases h2 : (y : Int) = k
    · rw [if_neg h1, if_pos h2, if_pos (by omega)]
      have : y = k := by omega
      subst this; simp
    · rw [if_neg h1, if_neg h2, if_neg (by omega)]
      split <;> rfl
theorem upL_zero (n : Nat) (f : Nat → Int) : List.replicate n 0 = upL n f 0 0 := by
  unfold upL
  apply List.ext_getElem
  · simp [sides_len]
  · intro i h1 h2
    have hi : i < n := by simpa using h1
    rw [List.getElem_replicate, List.getElem_map, ← getD_get (by rw [sides_len]; exact hi), sides_getD hi, if_neg (by omega)]
    split <;> rfl
theorem upL_end (n : Nat) (f : Nat → Int) (v : Int) : upL n f n v = (sides n).map fun x => f x.toNat := by
  unfold upL
  refine map_sides_congr n (fun y hy => ?_)
  rw [if_pos (by omega)]
end Fm
/-
  Who beats all others, by the pairwise matrix and by the votes: lists of ints alone, no Go text.
-/
namespace Fm
set_option linter.unusedVariables false

def Beats (n : Nat) (V : List (List Int)) (x : Nat) : Prop := x < n ∧ ∀ y : Nat, y < n → y ≠ x → cnt V y x < cnt V x y

theorem ent_duels (n : Nat) (V : List (List Int)) {x y : Nat} (hx : x < n) (hy : y < n) : ent (duelsM n V) x y = cnt V x y := by
  unfold ent duelsM
  have e : ((sides n).map fun x => duelRow n V x).getD x [] = duelRow n V x := by
    rw [List.getD_eq_getElem?_getD, List.getElem?_map, List.getElem?_eq_getElem (by rw [sides_len]; exact hx)]
    have : (sides n)[x]'(by rw [sides_len]; exact hx) = (x : Int) := by rw [← getD_get (by rw [sides_len]; exact hx), sides_getD hx]
    simp [this]
  rw [e]
  unfold duelRow
  rw [map_sides_getD n _ hy]
theorem ent_duels_bd (n : Nat) (V : List (List Int)) (hV : V.length ≤ 30) (x y : Nat) : 0 ≤ ent (duelsM n V) x y ∧ ent (duelsM n V) x y ≤ 30 := by
  by_cases hx : x < n
  · by_cases hy : y < n
    · rw [ent_duels n V hx hy]
      have := cnt_le V x y
      omega
    · unfold ent
      have e : ((duelsM n V).getD x []).length ≤ n := by
        rw [List.getD_eq_getElem?_getD]
        unfold duelsM
        rw [List.getElem?_map, List.getElem?_eq_getElem (by rw [sides_len]; exact hx)]
        simp [duelRow, sides_len]
      rw [List.getD_eq_getElem?_getD, List.getElem?_eq_none (by omega)]
      simp
  · unfold ent
    rw [List.getD_eq_getElem?_getD (l := duelsM n V), List.getElem?_eq_none (by simp [duelsM, sides_len]; omega)]
    simp
theorem duelsM_len (n : Nat) (V : List (List Int)) : (duelsM n V).length = n := by simp [duelsM, sides_len]
theorem duelsM_rows {n : Nat} {V : List (List Int)} {l : List Int} (h : l ∈ duelsM n V) : l.length = n := by
  unfold duelsM at h
  rw [List.mem_map] at h
  obtain ⟨x, _, rfl⟩ := h
  simp [duelRow, sides_len]
theorem sg_le (d : Int) : sg d ≤ 1 := by unfold sg; split <;> (try split) <;> omega
theorem sg_one {d : Int} : sg d = 1 ↔ 0 < d := by
  unfold sg
  constructor
  · intro h
    by_cases h1 : 0 < d
    · exact h1
    · rw [if_neg h1] at h
      split at h <;> omega
  · intro h; rw [if_pos h]
/-- x wins against the first j, itself left out, just if it beats each of them. -/
theorem winTo_max (M : List (List Int)) (x j : Nat) : winTo M x j ≤ j - (if x < j then 1 else 0) ∧ (winTo M x j = j - (if x < j then 1 else 0) ↔ ∀ y, y < j → y ≠ x → ent M y x < ent M x y) := by
  induction j with
  | zero => simp [winTo]
  | succ j ih =>
    obtain ⟨ih1, ih2⟩ := ih
    simp only [winTo]
    have hs := sg_le (ent M x j - ent M j x)
    by_cases hxj : x = j
    · subst hxj
      have h0 : sg (ent M x x - ent M x x) = 0 := by unfold sg; rw [if_neg (by omega), if_neg (by omega)]
      rw [if_neg (by omega)] at ih1 ih2
      rw [if_pos (by omega), h0]
      refine ⟨by omega, ⟨fun h y hy hne => (ih2.1 (by omega)) y (by omega) hne, fun h => ?_⟩⟩
      have := ih2.2 (fun y hy hne => h y (by omega) hne)
      omega
    · have hif : (if x < j + 1 then (1 : Int) else 0) = if x < j then 1 else 0 := by
        by_cases h : x < j
        · rw [if_pos h, if_pos (by omega)]
        · rw [if_neg h, if_neg (by omega)]
      rw [hif]
      refine ⟨by omega, ⟨fun h y hy hne => ?_, fun h => ?_⟩⟩
      · have h1 : sg (ent M x j - ent M j x) = 1 := by omega
        have h2 : winTo M x j = j - (if x < j then 1 else 0) := by omega
        by_cases hyj : y = j
        · subst hyj; have := sg_one.1 h1; omega
        · exact ih2.1 h2 y (by omega) hne
      · have h2 := ih2.2 (fun y hy hne => h y (by omega) hne)
        have h1 : sg (ent M x j - ent M j x) = 1 := sg_one.2 (by have := h j (by omega) (fun e => hxj e.symm); omega)
        omega
theorem win_beats {n : Nat} {V : List (List Int)} {x : Nat} (hx : x < n) : winTo (duelsM n V) x n = n - 1 ↔ Beats n V x := by
  have h := (winTo_max (duelsM n V) x n).2
  rw [if_pos hx] at h
  rw [h]
  unfold Beats
  constructor
  · intro hh
    refine ⟨hx, fun y hy hne => ?_⟩
    have := hh y hy hne
    rw [ent_duels n V hy hx, ent_duels n V hx hy] at this
    omega
  · rintro ⟨_, hh⟩ y hy hne
    rw [ent_duels n V hy hx, ent_duels n V hx hy]
    have := hh y hy hne
    omega
theorem beats_one {n : Nat} {V : List (List Int)} {x y : Nat} (hx : Beats n V x) (hy : Beats n V y) : x = y := by
  rcases Nat.lt_trichotomy x y with h | h | h
  · have a := hx.2 y hy.1 (by omega); have b := hy.2 x hx.1 (by omega); omega
  · exact h
  · have a := hx.2 y hy.1 (by omega); have b := hy.2 x hx.1 (by omega); omega
end Fm
/-
  Rows and square tables given by a function on 0 .. n-1: lists of ints alone, no Go text.
-/
namespace Fm
set_option linter.unusedVariables false

def fnL (n : Nat) (f : Int → Int) : List Int := (sides n).map f
def fnM (n : Nat) (f : Int → Int → Int) : List (List Int) := (sides n).map fun x => fnL n (f x)
theorem fnL_len (n : Nat) (f : Int → Int) : (fnL n f).length = n := by simp [fnL, sides_len]
theorem fnM_len (n : Nat) (f : Int → Int → Int) : (fnM n f).length = n := by simp [fnM, sides_len]
theorem fnL_at (n : Nat) (f : Int → Int) {j : Nat} (h : j < n) : (fnL n f).getD j 0 = f j := map_sides_getD n f h
theorem sides_get {n j : Nat} (h : j < (sides n).length) : (sides n)[j] = (j : Int) := by
  rw [← getD_get h, sides_getD (by rwa [sides_len] at h)]
theorem fnM_at (n : Nat) (f : Int → Int → Int) {j : Nat} (h : j < n) : (fnM n f).getD j [] = fnL n (f j) := by
  unfold fnM
  rw [List.getD_eq_getElem?_getD, List.getElem?_map, List.getElem?_eq_getElem (by rw [sides_len]; exact h)]
  simp [sides_get]
theorem fnM_rows {n : Nat} {f : Int → Int → Int} {l : List Int} (h : l ∈ fnM n f) : l.length = n := by
  unfold fnM at h
  rw [List.mem_map] at h
  obtain ⟨x, _, rfl⟩ := h
  exact fnL_len n _
theorem fnM_ent (n : Nat) (f : Int → Int → Int) {x y : Nat} (hx : x < n) (hy : y < n) : ent (fnM n f) x y = f x y := by
  unfold ent; rw [fnM_at n f hx, fnL_at n _ hy]
theorem fnL_congr (n : Nat) {f g : Int → Int} (h : ∀ j : Nat, j < n → f j = g j) : fnL n f = fnL n g := map_sides_congr n h
theorem fnM_congr (n : Nat) {f g : Int → Int → Int} (h : ∀ x y : Nat, x < n → y < n → f x y = g x y) : fnM n f = fnM n g := by
  unfold fnM
  apply List.map_congr_left
  intro x hx
  have hx := mem_sides.1 hx
  refine fnL_congr n (fun y hy => ?_)
  have := h x.toNat y (by omega) hy
  rwa [show ((x.toNat : Nat) : Int) = x by omega] at this
theorem fnL_set (n : Nat) (f : Int → Int) {j : Nat} (hj : j < n) (z : Int) : (fnL n f).set j z = fnL n (fun b => if b = (j : Int) then z else f b) := by
  unfold fnL
  exact map_sides_set n _ _ j hj z (by simp) (fun y hy => by rw [if_neg hy])
theorem fnM_setR (n : Nat) (f : Int → Int → Int) {x : Nat} (hx : x < n) (g : Int → Int) : (fnM n f).set x (fnL n g) = fnM n (fun a => if a = (x : Int) then g else f a) := by
  unfold fnM
  apply List.ext_getElem
  · simp
  · intro i h1 h2
    rw [List.getElem_set, List.getElem_map, List.getElem_map, sides_get]
    by_cases e : x = i
    · subst e; simp
    · rw [if_neg e]
      have h : ¬ (i : Int) = x := by omega
      simp [h]
theorem fnM_set (n : Nat) (f : Int → Int → Int) {x y : Nat} (hx : x < n) (hy : y < n) (z : Int) :
    (fnM n f).set x (((fnM n f).getD x []).set y z) = fnM n (fun a b => if a = (x : Int) ∧ b = (y : Int) then z else f a b) := by
  rw [fnM_at n f hx, fnL_set n _ hy, fnM_setR n f hx]
  refine fnM_congr n (fun a b ha hb => ?_)
  by_cases h : (a : Int) = x
  · by_cases h2 : (b : Int) = y
    · simp [h, h2]
    · simp [h, h2]
  · simp [h]
theorem zeroL (n : Nat) : List.replicate n (0 : Int) = fnL n (fun _ => 0) := by
  unfold fnL
  apply List.ext_getElem
  · simp [sides_len]
  · intro i h1 h2; simp
/-- k rows of zeros, the others not there yet. -/
def zerosM (n k : Nat) : List (List Int) := List.replicate k (List.replicate n 0) ++ List.replicate (n - k) []
theorem zerosM_zero (n : Nat) : List.replicate n [] = zerosM n 0 := by simp [zerosM]
theorem zerosM_len {n k : Nat} (h : k ≤ n) : (zerosM n k).length = n := by simp [zerosM]; omega
theorem zerosM_set {n k : Nat} (h : k < n) : (zerosM n k).set k (List.replicate n 0) = zerosM n (k + 1) := by
  unfold zerosM
  rw [List.set_append_right _ _ (by simp), show n - k = (n - (k + 1)) + 1 by omega, List.replicate_succ (n := n - (k + 1)), List.replicate_succ' (n := k)]
  simp
theorem zerosM_end (n : Nat) : zerosM n n = fnM n (fun _ _ => 0) := by
  unfold zerosM fnM
  rw [zeroL]
  apply List.ext_getElem
  · simp [sides_len]
  · intro i h1 h2; simp
end Fm
/-
  Pairwise tables: when one is right, and the smallest set of which each beats all others: lists of ints alone, no Go text.
-/
namespace Fm
set_option linter.unusedVariables false

def rowErr (n : Nat) (r : List Int) : Int := if r.length ≠ n then 3 else if (∀ x ∈ r, 0 ≤ x ∧ x ≤ 30) then 0 else 1
def firstErr (n : Nat) : List (List Int) → Int
  | [] => 0
  | r :: M => if rowErr n r ≠ 0 then rowErr n r else firstErr n M
def diagOk (M : List (List Int)) : Prop := ∀ i, i < M.length → ent M i i = 0
instance (M : List (List Int)) : Decidable (diagOk M) := by unfold diagOk; infer_instance
/-- What duel.Check answers. -/
def tchk (M : List (List Int)) : Int := if M.length = 0 ∨ 6 < M.length then 2 else if firstErr M.length M ≠ 0 then firstErr M.length M else if diagOk M then 0 else 3

theorem firstErr_zero {n : Nat} {M : List (List Int)} : firstErr n M = 0 ↔ ∀ r ∈ M, rowErr n r = 0 := by
  induction M with
  | nil => simp [firstErr]
  | cons r M ih =>
    simp only [firstErr, List.mem_cons, forall_eq_or_imp]
    by_cases h : rowErr n r = 0
    · rw [if_neg (by simpa using h), ih]; simp [h]
    · rw [if_pos h]; simp [h]
theorem firstErr_split {n : Nat} (A : List (List Int)) (r : List Int) (C : List (List Int)) (hA : ∀ q ∈ A, rowErr n q = 0) (hr : rowErr n r ≠ 0) : firstErr n (A ++ r :: C) = rowErr n r := by
  induction A with
  | nil => simp [firstErr, hr]
  | cons q A ih =>
    simp only [List.cons_append, firstErr]
    rw [if_neg (by simpa using hA q (by simp))]
    exact ih (fun q hq => hA q (by simp [hq]))
theorem firstErr_at {n : Nat} {M : List (List Int)} {k : Nat} (hk : k < M.length) (hA : ∀ q ∈ M.take k, rowErr n q = 0) (hr : rowErr n (M.getD k []) ≠ 0) : firstErr n M = rowErr n (M.getD k []) := by
  have e : M = M.take k ++ M.getD k [] :: M.drop (k + 1) := by
    rw [List.getD_eq_getElem?_getD, List.getElem?_eq_getElem hk]
    simp
  have h := firstErr_split (M.take k) (M.getD k []) (M.drop (k + 1)) hA hr
  rw [← e] at h
  exact h
theorem rowErr_zero {n : Nat} {r : List Int} : rowErr n r = 0 ↔ r.length = n ∧ ∀ x ∈ r, 0 ≤ x ∧ x ≤ 30 := by
  unfold rowErr
  by_cases h : r.length = n
  · rw [if_neg (by simpa using h)]
    by_cases h2 : ∀ x ∈ r, 0 ≤ x ∧ x ≤ 30
    · rw [if_pos h2]; exact ⟨fun _ => ⟨h, h2⟩, fun _ => rfl⟩
    · rw [if_neg h2]; exact ⟨(fun c => by cases c), fun c => absurd c.2 h2⟩
  · rw [if_pos h]; exact ⟨(fun c => by cases c), fun c => absurd c.1 h⟩

/-- A right table. -/
structure Tab (n : Nat) (M : List (List Int)) : Prop where
  len : M.length = n
  pos : 1 ≤ n
  six : n ≤ 6
  rows : ∀ l ∈ M, l.length = n
  bd : ∀ x y, 0 ≤ ent M x y ∧ ent M x y ≤ 30
  diag : ∀ x, ent M x x = 0
theorem memR {M : List (List Int)} {x : Nat} (h : x < M.length) : M.getD x [] ∈ M := by
  rw [List.getD_eq_getElem?_getD, List.getElem?_eq_getElem h]; exact List.getElem_mem h
theorem ent_out {M : List (List Int)} {x y : Nat} (h : M.length ≤ x) : ent M x y = 0 := by
  unfold ent; rw [List.getD_eq_getElem?_getD (l := M), List.getElem?_eq_none h]; simp
theorem tab_of {M : List (List Int)} (h : tchk M = 0) : Tab M.length M := by
  unfold tchk at h
  by_cases h1 : M.length = 0 ∨ 6 < M.length
  · rw [if_pos h1] at h; cases h
  · rw [if_neg h1] at h
    by_cases h2 : firstErr M.length M = 0
    · rw [if_neg (by simpa using h2)] at h
      by_cases h3 : diagOk M
      · have hr := firstErr_zero.1 h2
        refine ⟨rfl, by omega, by omega, fun l hl => (rowErr_zero.1 (hr l hl)).1, fun x y => ?_, fun x => ?_⟩
        · by_cases hx : x < M.length
          · have hl := (rowErr_zero.1 (hr _ (memR hx)))
            unfold ent
            by_cases hy : y < (M.getD x []).length
            · exact hl.2 _ (getD_mem _ y hy)
            · rw [List.getD_eq_getElem?_getD, List.getElem?_eq_none (by omega)]; simp
          · rw [ent_out (by omega)]; omega
        · by_cases hx : x < M.length
          · exact h3 x hx
          · exact ent_out (by omega)
      · rw [if_neg h3] at h; cases h
    · rw [if_pos h2] at h; exact absurd h h2

/-- Each of the set s beats each one outside of it. -/
def dom (n : Nat) (M : List (List Int)) (s : Nat) : Bool := (List.range n).all fun x => (List.range n).all fun y => !(s.testBit x) || s.testBit y || decide (ent M y x < ent M x y)
def inTop (n : Nat) (M : List (List Int)) (x : Nat) : Bool := (List.range (2 ^ n)).all fun s => s == 0 || !(dom n M s) || s.testBit x
def setL (n s : Nat) : List Int := ((List.range n).filter fun x => s.testBit x).map fun (i : Nat) => (i : Int)
/-- The Smith set. -/
def topL (n : Nat) (M : List (List Int)) : List Int := ((List.range n).filter fun x => inTop n M x).map fun (i : Nat) => (i : Int)

theorem dom_iff {n : Nat} {M : List (List Int)} {s : Nat} : dom n M s = true ↔ ∀ x, x < n → ∀ y, y < n → s.testBit x = true → s.testBit y = false → ent M y x < ent M x y := by
  unfold dom
  simp only [List.all_eq_true, List.mem_range, Bool.or_eq_true, Bool.not_eq_true', decide_eq_true_eq]
  constructor
  · intro h x hx y hy h1 h2
    rcases h x hx y hy with (h3 | h3) | h3
    · rw [h3] at h1; cases h1
    · rw [h3] at h2; cases h2
    · exact h3
  · intro h x hx y hy
    cases h1 : s.testBit x with
    | false => exact .inl (.inl rfl)
    | true =>
      cases h2 : s.testBit y with
      | true => exact .inl (.inr rfl)
      | false => exact .inr (h x hx y hy h1 h2)
theorem inTop_iff {n : Nat} {M : List (List Int)} {x : Nat} : inTop n M x = true ↔ ∀ s, 0 < s → s < 2 ^ n → dom n M s = true → s.testBit x = true := by
  unfold inTop
  simp only [List.all_eq_true, List.mem_range, Bool.or_eq_true, Bool.not_eq_true', beq_iff_eq]
  constructor
  · intro h s h0 hs hd
    rcases h s hs with (h3 | h3) | h3
    · omega
    · rw [h3] at hd; cases hd
    · exact h3
  · intro h s hs
    by_cases h0 : s = 0
    · exact .inl (.inl h0)
    · cases hd : dom n M s with
      | false => exact .inl (.inr rfl)
      | true => exact .inr (h s (by omega) hs hd)

/-- The set that P says, as a number. -/
def maskOf (P : Nat → Bool) : Nat → Nat
  | 0 => 0
  | n + 1 => maskOf P n + if P n then 2 ^ n else 0
theorem maskOf_lt (P : Nat → Bool) (n : Nat) : maskOf P n < 2 ^ n := by
  induction n with
  | zero => simp [maskOf]
  | succ n ih =>
    simp only [maskOf]
    rw [Nat.pow_succ]
    split <;> omega
theorem maskOf_bit (P : Nat → Bool) {n x : Nat} (h : x < n) : (maskOf P n).testBit x = P x := by
  induction n with
  | zero => omega
  | succ n ih =>
    simp only [maskOf]
    have hlt := maskOf_lt P n
    by_cases hx : x = n
    · subst hx
      by_cases hp : P x = true
      · rw [if_pos hp, hp, Nat.add_comm, Nat.testBit_two_pow_add_eq]
        rw [Nat.testBit_lt_two_pow hlt]; rfl
      · have hp' : P x = false := by simpa using hp
        rw [if_neg hp, hp', Nat.add_zero]
        exact Nat.testBit_lt_two_pow hlt
    · have hxn : x < n := by omega
      by_cases hp : P n = true
      · rw [if_pos hp, Nat.add_comm, Nat.testBit_two_pow_add_gt hxn, ih hxn]
      · rw [if_neg hp, Nat.add_zero, ih hxn]
theorem mask_pos {s n x : Nat} (h : s.testBit x = true) : 0 < s := by
  rcases Nat.eq_zero_or_pos s with h0 | h0
  · subst h0; simp at h
  · exact h0
/-- A set of the smallest kind: it beats all others, and every such set holds it. -/
theorem topL_of {n : Nat} {M : List (List Int)} (P : Nat → Bool) (hne : ∃ x, x < n ∧ P x = true) (hd : ∀ x y, x < n → y < n → P x = true → P y = false → ent M y x < ent M x y)
    (hmin : ∀ Q : Nat → Bool, (∃ x, x < n ∧ Q x = true) → (∀ x y, x < n → y < n → Q x = true → Q y = false → ent M y x < ent M x y) → ∀ x, x < n → P x = true → Q x = true) :
    topL n M = ((List.range n).filter P).map fun (i : Nat) => (i : Int) := by
  unfold topL
  congr 1
  apply List.filter_congr
  intro x hx
  have hx := List.mem_range.1 hx
  cases hp : P x with
  | true =>
    rw [inTop_iff]
    intro s h0 hs hds
    have hs2 : ∃ y, y < n ∧ s.testBit y = true := by
      obtain ⟨y, hy⟩ := Nat.exists_testBit_of_ne_zero (Nat.ne_of_gt h0)
      refine ⟨y, ?_, hy⟩
      rcases Nat.lt_or_ge y n with h | h
      · exact h
      · rw [Nat.testBit_lt_two_pow (Nat.lt_of_lt_of_le hs (Nat.pow_le_pow_right (by omega) h))] at hy; cases hy
    exact hmin (fun y => s.testBit y) hs2 (fun a b ha hb h1 h2 => dom_iff.1 hds a ha b hb h1 h2) x hx hp
  | false =>
    rw [Bool.eq_false_iff]
    intro hin
    rw [inTop_iff] at hin
    obtain ⟨z, hz, hpz⟩ := hne
    have hb := hin (maskOf P n) (mask_pos (n := n) (x := z) (by rw [maskOf_bit P hz]; exact hpz)) (maskOf_lt P n) (dom_iff.2 (fun a ha b hb h1 h2 => by
      rw [maskOf_bit P ha] at h1
      rw [maskOf_bit P hb] at h2
      exact hd a b ha hb h1 h2))
    rw [maskOf_bit P hx, hp] at hb
    cases hb
theorem dom_nest {n : Nat} {M : List (List Int)} {s t : Nat} (hs : dom n M s = true) (ht : dom n M t = true) : (∀ x, x < n → s.testBit x = true → t.testBit x = true) ∨ (∀ x, x < n → t.testBit x = true → s.testBit x = true) := by
  rcases Classical.em (∃ x, x < n ∧ s.testBit x = true ∧ t.testBit x = false) with ⟨x, hx, h1, h2⟩ | hno
  · right
    intro y hy hty
    cases hsy : s.testBit y with
    | true => rfl
    | false =>
      have a := dom_iff.1 hs x hx y hy h1 hsy
      have b := dom_iff.1 ht y hy x hx hty h2
      omega
  · left
    intro x hx h1
    cases htx : t.testBit x with
    | true => rfl
    | false => exact absurd ⟨x, hx, h1, htx⟩ hno
theorem filter_sub {l : List Nat} {p q : Nat → Bool} (h : ∀ x ∈ l, p x = true → q x = true) : (l.filter p).length ≤ (l.filter q).length ∧ ((l.filter q).length ≤ (l.filter p).length → ∀ x ∈ l, q x = true → p x = true) := by
  induction l with
  | nil => simp
  | cons a l ih =>
    obtain ⟨h1, h2⟩ := ih (fun x hx => h x (by simp [hx]))
    have ha := h a (by simp)
    cases hp : p a with
    | true =>
      rw [hp] at ha
      have hq := ha rfl
      simp only [List.filter_cons, hp, hq, if_true, List.length_cons]
      refine ⟨by omega, fun hle x hx hqx => ?_⟩
      rcases List.mem_cons.1 hx with rfl | hx
      · exact hp
      · exact h2 (by omega) x hx hqx
    | false =>
      cases hq : q a with
      | true =>
        simp only [List.filter_cons, hp, hq, if_true, List.length_cons, Bool.false_eq_true, if_false]
        refine ⟨by omega, fun hle => ?_⟩
        omega
      | false =>
        simp only [List.filter_cons, hp, hq, Bool.false_eq_true, if_false]
        refine ⟨h1, fun hle x hx hqx => ?_⟩
        rcases List.mem_cons.1 hx with rfl | hx
        · rw [hq] at hqx; cases hqx
        · exact h2 hle x hx hqx
/-- What the search over all sets below s has found: nothing, or a smallest one. -/
def bestTo (n : Nat) (M : List (List Int)) : Nat → List Int
  | 0 => []
  | s + 1 => if s ≠ 0 ∧ dom n M s = true ∧ (bestTo n M s = [] ∨ (setL n s).length < (bestTo n M s).length) then setL n s else bestTo n M s
theorem setL_nil {n s : Nat} (h0 : 0 < s) (hs : s < 2 ^ n) : setL n s ≠ [] := by
  obtain ⟨y, hy⟩ := Nat.exists_testBit_of_ne_zero (Nat.ne_of_gt h0)
  have hyn : y < n := by
    rcases Nat.lt_or_ge y n with h | h
    · exact h
    · rw [Nat.testBit_lt_two_pow (Nat.lt_of_lt_of_le hs (Nat.pow_le_pow_right (by omega) h))] at hy; cases hy
  intro h
  have : (y : Int) ∈ setL n s := List.mem_map.2 ⟨y, List.mem_filter.2 ⟨List.mem_range.2 hyn, hy⟩, rfl⟩
  rw [h] at this
  cases this
theorem bestTo_inv (n : Nat) (M : List (List Int)) (s : Nat) (hs : s ≤ 2 ^ n) :
    (bestTo n M s = [] ∧ ∀ t, 0 < t → t < s → dom n M t = false) ∨ ∃ u, 0 < u ∧ u < s ∧ dom n M u = true ∧ bestTo n M s = setL n u ∧ ∀ t, 0 < t → t < s → dom n M t = true → (setL n u).length ≤ (setL n t).length := by
  induction s with
  | zero => left; exact ⟨rfl, fun t h1 h2 => by omega⟩
  | succ s ih =>
    have ih := ih (by omega)
    simp only [bestTo]
    by_cases hc : s ≠ 0 ∧ dom n M s = true ∧ (bestTo n M s = [] ∨ (setL n s).length < (bestTo n M s).length)
    · rw [if_pos hc]
      right
      refine ⟨s, by omega, by omega, hc.2.1, rfl, fun t h1 h2 h3 => ?_⟩
      by_cases hts : t = s
      · subst hts; exact Nat.le_refl _
      · rcases ih with ⟨hb, hn⟩ | ⟨u, hu0, hus, hud, hbu, hmin⟩
        · rw [hn t h1 (by omega)] at h3; cases h3
        · have := hmin t h1 (by omega) h3
          rcases hc.2.2 with he | hl
          · exact absurd (hbu ▸ he) (setL_nil hu0 (by omega))
          · rw [hbu] at hl; omega
    · rw [if_neg hc]
      rcases ih with ⟨hb, hn⟩ | ⟨u, hu0, hus, hud, hbu, hmin⟩
      · left
        refine ⟨hb, fun t h1 h2 => ?_⟩
        by_cases hts : t = s
        · subst hts
          cases hd : dom n M t with
          | false => rfl
          | true => exact absurd ⟨by omega, hd, .inl hb⟩ hc
        · exact hn t h1 (by omega)
      · right
        refine ⟨u, hu0, by omega, hud, hbu, fun t h1 h2 h3 => ?_⟩
        by_cases hts : t = s
        · subst hts
          rcases Nat.lt_or_ge (setL n t).length (setL n u).length with hl | hl
          · exact absurd ⟨by omega, h3, .inr (by rw [hbu]; exact hl)⟩ hc
          · exact hl
        · exact hmin t h1 (by omega) h3
theorem full_dom (n : Nat) (M : List (List Int)) : dom n M (2 ^ n - 1) = true := by
  rw [dom_iff]
  intro x hx y hy _ h2
  rw [Nat.testBit_two_pow_sub_one] at h2
  simp at h2
  omega
theorem bestTo_top {n : Nat} {M : List (List Int)} (hn : 1 ≤ n) : bestTo n M (2 ^ n) = topL n M := by
  have h2 : 2 ^ 1 ≤ 2 ^ n := Nat.pow_le_pow_right (by omega) hn
  rcases bestTo_inv n M (2 ^ n) (Nat.le_refl _) with ⟨hb, hno⟩ | ⟨u, hu0, hus, hud, hbu, hmin⟩
  · have := hno (2 ^ n - 1) (by omega) (by omega)
    rw [full_dom] at this
    cases this
  · rw [hbu]
    have hlen : ∀ t, (setL n t).length = ((List.range n).filter fun x => t.testBit x).length := fun t => by simp [setL]
    unfold setL topL
    congr 1
    apply List.filter_congr
    intro x hx
    have hxn := List.mem_range.1 hx
    cases hp : u.testBit x with
    | true =>
      symm
      rw [inTop_iff]
      intro t ht0 ht htd
      rcases dom_nest hud htd with h | h
      · exact h x hxn hp
      · have hl := hmin t ht0 ht htd
        rw [hlen, hlen] at hl
        exact (filter_sub (l := List.range n) (p := fun x => t.testBit x) (q := fun x => u.testBit x) (fun y hy => h y (List.mem_range.1 hy))).2 hl x hx hp
    | false =>
      symm
      rw [Bool.eq_false_iff]
      intro hin
      rw [inTop_iff] at hin
      have := hin u hu0 hus hud
      rw [hp] at this
      cases this
/-- Two different ones of the n. -/
def okPair (n : Int) (b : List Int) : Prop := b.length = 2 ∧ (0 ≤ b.getD 0 0 ∧ b.getD 0 0 < n) ∧ (0 ≤ b.getD 1 0 ∧ b.getD 1 0 < n) ∧ b.getD 0 0 ≠ b.getD 1 0
instance (n : Int) (b : List Int) : Decidable (okPair n b) := by unfold okPair; infer_instance
/-- What duel.Votes refuses. -/
def bchk (n : Int) (L : List (List Int)) : Int := if n < 1 ∨ 6 < n then 1 else if 15 < L.length then 2 else if (∀ b ∈ L, okPair n b) then 0 else 3
def others (n : Nat) (b : List Int) : List Int := (sides n).filter fun x => !(x == b.getD 0 0 || x == b.getD 1 0)
/-- McGarvey's ballots. -/
def mcg (n : Nat) (L : List (List Int)) : List (List Int) := L.flatMap fun b => [b ++ others n b, (others n b).reverse ++ b]
theorem bchk_zero {n : Int} {L : List (List Int)} (h : bchk n L = 0) : (1 ≤ n ∧ n ≤ 6) ∧ L.length ≤ 15 ∧ ∀ b ∈ L, okPair n b := by
  unfold bchk at h
  by_cases h1 : n < 1 ∨ 6 < n
  · rw [if_pos h1] at h; cases h
  · rw [if_neg h1] at h
    by_cases h2 : 15 < L.length
    · rw [if_pos h2] at h; cases h
    · rw [if_neg h2] at h
      by_cases h3 : ∀ b ∈ L, okPair n b
      · exact ⟨by omega, by omega, h3⟩
      · rw [if_neg h3] at h; cases h
end Fm
/-
  Finite sums of ints over 0 .. n-1: no Go text.
-/
namespace Fm
set_option linter.unusedVariables false

def sumTo (f : Nat → Int) : Nat → Int
  | 0 => 0
  | n + 1 => sumTo f n + f n
theorem sumTo_congr {f g : Nat → Int} {n : Nat} (h : ∀ i, i < n → f i = g i) : sumTo f n = sumTo g n := by
  induction n with
  | zero => rfl
  | succ n ih => simp only [sumTo]; rw [ih (fun i hi => h i (by omega)), h n (by omega)]
theorem sumTo_add (f g : Nat → Int) (n : Nat) : sumTo (fun i => f i + g i) n = sumTo f n + sumTo g n := by
  induction n with
  | zero => rfl
  | succ n ih => simp only [sumTo]; rw [ih]; omega
theorem sumTo_neg (f : Nat → Int) (n : Nat) : sumTo (fun i => - f i) n = - sumTo f n := by
  induction n with
  | zero => rfl
  | succ n ih => simp only [sumTo]; rw [ih]; omega
theorem sumTo_zero {f : Nat → Int} {n : Nat} (h : ∀ i, i < n → f i = 0) : sumTo f n = 0 := by
  induction n with
  | zero => rfl
  | succ n ih => simp only [sumTo]; rw [ih (fun i hi => h i (by omega)), h n (by omega)]; rfl
theorem sumTo_le {f g : Nat → Int} {n : Nat} (h : ∀ i, i < n → f i ≤ g i) : sumTo f n ≤ sumTo g n := by
  induction n with
  | zero => exact Int.le_refl _
  | succ n ih => simp only [sumTo]; have := ih (fun i hi => h i (by omega)); have := h n (by omega); omega
theorem sumTo_mul (c : Int) (f : Nat → Int) (n : Nat) : sumTo (fun i => c * f i) n = c * sumTo f n := by
  induction n with
  | zero => simp [sumTo]
  | succ n ih => simp only [sumTo]; rw [ih, Int.mul_add]
theorem sumTo_swap (f : Nat → Nat → Int) (n m : Nat) : sumTo (fun i => sumTo (fun j => f i j) m) n = sumTo (fun j => sumTo (fun i => f i j) n) m := by
  induction n with
  | zero => simp only [sumTo]; exact (sumTo_zero (fun _ _ => rfl)).symm
  | succ n ih => simp only [sumTo]; rw [ih, ← sumTo_add]
theorem sumTo_anti {f : Nat → Nat → Int} {n : Nat} (h : ∀ i j, i < n → j < n → f i j = - f j i) : sumTo (fun i => sumTo (fun j => f i j) n) n = 0 := by
  have e1 := sumTo_swap f n n
  have e2 : sumTo (fun j => sumTo (fun i => f i j) n) n = - sumTo (fun j => sumTo (fun i => f j i) n) n := by
    rw [← sumTo_neg]
    refine sumTo_congr (fun j hj => ?_)
    rw [← sumTo_neg]
    exact sumTo_congr (fun i hi => h i j hi hj)
  omega
theorem sumTo_const (c : Int) (n : Nat) : sumTo (fun _ => c) n = c * n := by
  induction n with
  | zero => simp [sumTo]
  | succ n ih => simp only [sumTo]; rw [ih]; rw [Int.natCast_add, Int.mul_add]; simp
end Fm
/-
  Copeland's scores, greatest defeats, and the Smith set: lists of ints alone, no Go text.
-/
namespace Fm
set_option linter.unusedVariables false

theorem worst_ge (M : List (List Int)) (x : Nat) {j y : Nat} (h : y < j) : ent M y x - ent M x y ≤ worstTo M x j := by
  induction j with
  | zero => omega
  | succ j ih =>
    simp only [worstTo]
    by_cases hy : y = j
    · subst hy; omega
    · have := ih (by omega); omega
theorem worst_att (M : List (List Int)) (x j : Nat) : worstTo M x j = 0 ∨ ∃ y, y < j ∧ ent M y x - ent M x y = worstTo M x j := by
  induction j with
  | zero => left; rfl
  | succ j ih =>
    simp only [worstTo]
    rcases Int.le_total (worstTo M x j) (-(ent M x j - ent M j x)) with h | h
    · right; exact ⟨j, by omega, by omega⟩
    · rcases ih with h0 | ⟨y, hy, he⟩
      · left; omega
      · right; exact ⟨y, by omega, by omega⟩
theorem winTo_sum (M : List (List Int)) (x n : Nat) : winTo M x n = sumTo (fun y => sg (ent M x y - ent M y x)) n := by
  induction n with
  | zero => rfl
  | succ n ih => simp only [winTo, sumTo]; rw [ih]
theorem sg_neg (d : Int) : sg (-d) = - sg d := by
  unfold sg
  by_cases h : 0 < d
  · rw [if_neg (by omega), if_pos (by omega), if_pos h]
  · by_cases h2 : d < 0
    · rw [if_pos (by omega), if_neg h, if_pos h2]; rfl
    · rw [if_neg (by omega), if_neg (by omega), if_neg h, if_neg h2]; rfl
theorem sg_anti (M : List (List Int)) (x y : Nat) : sg (ent M x y - ent M y x) = - sg (ent M y x - ent M x y) := by
  rw [← sg_neg]; congr 1; omega
theorem wins_sum (n : Nat) (M : List (List Int)) : sumTo (fun x => winTo M x n) n = 0 := by
  have e : sumTo (fun x => winTo M x n) n = sumTo (fun x => sumTo (fun y => sg (ent M x y - ent M y x)) n) n := sumTo_congr (fun x _ => winTo_sum M x n)
  rw [e]
  exact sumTo_anti (fun i j _ _ => sg_anti M i j)
def ind (P : Nat → Bool) (x : Nat) : Int := if P x then 1 else 0
theorem ind_sum_pos {P : Nat → Bool} {n x : Nat} (hx : x < n) (h : P x = true) : 1 ≤ sumTo (ind P) n := by
  induction n with
  | zero => omega
  | succ n ih =>
    simp only [sumTo]
    by_cases e : x = n
    · subst e
      have h0 : 0 ≤ sumTo (ind P) x := by
        have := sumTo_le (f := fun _ => 0) (g := ind P) (n := x) (fun i _ => by unfold ind; split <;> omega)
        rw [sumTo_zero (fun _ _ => rfl)] at this; exact this
      have : ind P x = 1 := by unfold ind; rw [if_pos h]
      omega
    · have := ih (by omega)
      have : 0 ≤ ind P n := by unfold ind; split <;> omega
      omega
/-- One with the greatest score is in every set of which each beats all others. -/
theorem best_in {n : Nat} {M : List (List Int)} (P : Nat → Bool) (hne : ∃ z, z < n ∧ P z = true) (hd : ∀ x y, x < n → y < n → P x = true → P y = false → ent M y x < ent M x y)
    {x : Nat} (hx : x < n) (hmax : ∀ y, y < n → winTo M y n ≤ winTo M x n) : P x = true := by
  cases hpx : P x with
  | true => rfl
  | false =>
    exfalso
    obtain ⟨z, hz, hpz⟩ := hne
    have hs1 : 1 ≤ sumTo (ind P) n := ind_sum_pos hz hpz
    -- the scores within the set cancel
    have a1 : sumTo (fun i => ind P i * winTo M i n) n = sumTo (ind P) n * (n - sumTo (ind P) n) := by
      have e1 : sumTo (fun i => ind P i * winTo M i n) n = sumTo (fun i => sumTo (fun j => ind P i * ind P j * sg (ent M i j - ent M j i) + ind P i * (1 - ind P j)) n) n := by
        refine sumTo_congr (fun i hi => ?_)
        rw [winTo_sum, ← sumTo_mul]
        refine sumTo_congr (fun j hj => ?_)
        unfold ind
        cases h1 : P i with
        | false => simp
        | true =>
          cases h2 : P j with
          | true => simp
          | false =>
            have hb := hd i j hi hj h1 h2
            have : sg (ent M i j - ent M j i) = 1 := sg_one.2 (by omega)
            simp [this]
      rw [e1]
      have e2 : sumTo (fun i => sumTo (fun j => ind P i * ind P j * sg (ent M i j - ent M j i) + ind P i * (1 - ind P j)) n) n
          = sumTo (fun i => sumTo (fun j => ind P i * ind P j * sg (ent M i j - ent M j i)) n) n + sumTo (fun i => sumTo (fun j => ind P i * (1 - ind P j)) n) n := by
        rw [← sumTo_add]
        exact sumTo_congr (fun i _ => sumTo_add _ _ n)
      rw [e2, sumTo_anti (fun i j _ _ => by rw [sg_anti M i j, Int.mul_comm (ind P i) (ind P j), Int.mul_neg])]
      rw [Int.zero_add]
      have e3 : ∀ i, sumTo (fun j => ind P i * (1 - ind P j)) n = ind P i * (n - sumTo (ind P) n) := fun i => by
        rw [sumTo_mul]
        congr 1
        have : sumTo (fun j => 1 - ind P j) n = sumTo (fun _ => 1) n + sumTo (fun j => - ind P j) n := by
          rw [← sumTo_add]; exact sumTo_congr (fun j _ => by omega)
        rw [this, sumTo_neg, sumTo_const]; omega
      have e4 : sumTo (fun i => sumTo (fun j => ind P i * (1 - ind P j)) n) n = sumTo (fun i => (n - sumTo (ind P) n) * ind P i) n := sumTo_congr (fun i _ => by rw [e3 i, Int.mul_comm])
      rw [e4, sumTo_mul, Int.mul_comm]
    have a2 : sumTo (fun i => ind P i * winTo M i n) n ≤ sumTo (ind P) n * winTo M x n := by
      have : sumTo (fun i => ind P i * winTo M i n) n ≤ sumTo (fun i => winTo M x n * ind P i) n := sumTo_le (fun i hi => by
        have := hmax i hi
        unfold ind
        split
        · omega
        · simp)
      rw [sumTo_mul, Int.mul_comm] at this
      exact this
    -- x is beaten by each of the set
    have a3 : winTo M x n ≤ n - 1 - 2 * sumTo (ind P) n := by
      rw [winTo_sum]
      have : sumTo (fun y => sg (ent M x y - ent M y x)) n ≤ sumTo (fun y => (1 - ind (fun y => decide (y = x)) y) + (- 2) * ind P y) n := sumTo_le (fun y hy => by
        unfold ind
        by_cases hyx : y = x
        · subst hyx
          have h0 : sg (ent M y y - ent M y y) = 0 := by unfold sg; rw [if_neg (by omega), if_neg (by omega)]
          rw [h0]; simp [hpx]
        · cases hp : P y with
          | true =>
            have hb := hd y x hy hx hp hpx
            have : sg (ent M x y - ent M y x) = -1 := by unfold sg; rw [if_neg (by omega), if_pos (by omega)]
            simp [this, hyx]
          | false =>
            have := sg_le (ent M x y - ent M y x)
            simp [hyx]; omega)
      rw [sumTo_add, sumTo_mul] at this
      have e5 : sumTo (fun y => 1 - ind (fun y => decide (y = x)) y) n = n - sumTo (ind fun y => decide (y = x)) n := by
        have : sumTo (fun j => 1 - ind (fun y => decide (y = x)) j) n = sumTo (fun _ => 1) n + sumTo (fun j => - ind (fun y => decide (y = x)) j) n := by
          rw [← sumTo_add]; exact sumTo_congr (fun j _ => by omega)
        rw [this, sumTo_neg, sumTo_const]; omega
      have e6 := ind_sum_pos (P := fun y => decide (y = x)) hx (by simp)
      omega
    have a4 : sumTo (ind P) n * (n - sumTo (ind P) n) ≤ sumTo (ind P) n * winTo M x n := by rw [← a1]; exact a2
    have a5 := Int.le_of_mul_le_mul_left a4 (by omega)
    omega
theorem mem_topL {n : Nat} {M : List (List Int)} {x : Nat} : (x : Int) ∈ topL n M ↔ x < n ∧ inTop n M x = true := by
  unfold topL
  rw [List.mem_map]
  constructor
  · rintro ⟨y, hy, he⟩
    have : y = x := by omega
    subst this
    rw [List.mem_filter, List.mem_range] at hy
    exact hy
  · rintro ⟨h1, h2⟩
    exact ⟨x, List.mem_filter.2 ⟨List.mem_range.2 h1, h2⟩, rfl⟩
theorem topL_range {n : Nat} {M : List (List Int)} {x : Int} (h : x ∈ topL n M) : 0 ≤ x ∧ x < n := by
  unfold topL at h
  rw [List.mem_map] at h
  obtain ⟨y, hy, rfl⟩ := h
  rw [List.mem_filter, List.mem_range] at hy
  omega
theorem best_top {n : Nat} {M : List (List Int)} {x : Nat} (hx : x < n) (hmax : ∀ y, y < n → winTo M y n ≤ winTo M x n) : (x : Int) ∈ topL n M := by
  rw [mem_topL]
  refine ⟨hx, inTop_iff.2 (fun s h0 hs hd => ?_)⟩
  have hs2 : ∃ y, y < n ∧ s.testBit y = true := by
    obtain ⟨y, hy⟩ := Nat.exists_testBit_of_ne_zero (Nat.ne_of_gt h0)
    refine ⟨y, ?_, hy⟩
    rcases Nat.lt_or_ge y n with h | h
    · exact h
    · rw [Nat.testBit_lt_two_pow (Nat.lt_of_lt_of_le hs (Nat.pow_le_pow_right (by omega) h))] at hy; cases hy
  exact best_in (fun y => s.testBit y) hs2 (fun a b ha hb h1 h2 => dom_iff.1 hd a ha b hb h1 h2) hx hmax
/-- The Smith set itself is such a set. -/
theorem top_dom {n : Nat} (hn : 1 ≤ n) (M : List (List Int)) {x y : Nat} (hx : x < n) (hy : y < n) (h1 : (x : Int) ∈ topL n M) (h2 : (y : Int) ∉ topL n M) : ent M y x < ent M x y := by
  have h3 := bestTo_top (n := n) (M := M) hn
  rcases bestTo_inv n M (2 ^ n) (Nat.le_refl _) with ⟨hb, hno⟩ | ⟨u, hu0, hus, hud, hbu, hmin⟩
  · have hp : 2 ^ 1 ≤ 2 ^ n := Nat.pow_le_pow_right (by omega) hn
    have := hno (2 ^ n - 1) (by omega) (by omega)
    rw [full_dom] at this
    cases this
  · have e : topL n M = setL n u := by rw [← h3, hbu]
    have hm : ∀ z, z < n → ((z : Int) ∈ topL n M ↔ u.testBit z = true) := fun z hz => by
      rw [e]
      unfold setL
      rw [List.mem_map]
      constructor
      · rintro ⟨t, ht, he⟩
        have : t = z := by omega
        subst this
        exact (List.mem_filter.1 ht).2
      · intro h
        exact ⟨z, List.mem_filter.2 ⟨List.mem_range.2 hz, h⟩, rfl⟩
    have b2 : u.testBit y = false := by
      cases hb : u.testBit y with
      | false => rfl
      | true => exact absurd ((hm y hy).2 hb) h2
    exact dom_iff.1 hud x hx y hy ((hm x hx).1 h1) b2
theorem top_ne {n : Nat} (hn : 1 ≤ n) (M : List (List Int)) : topL n M ≠ [] := by
  have h3 := bestTo_top (n := n) (M := M) hn
  rcases bestTo_inv n M (2 ^ n) (Nat.le_refl _) with ⟨hb, hno⟩ | ⟨u, hu0, hus, hud, hbu, hmin⟩
  · have hp : 2 ^ 1 ≤ 2 ^ n := Nat.pow_le_pow_right (by omega) hn
    have := hno (2 ^ n - 1) (by omega) (by omega)
    rw [full_dom] at this
    cases this
  · rw [← h3, hbu]; exact setL_nil hu0 hus
/-- What is come to from one of the Smith set, by steps to those that do not beat, is all. -/
theorem top_reach {n : Nat} {M : List (List Int)} {x : Nat} (hx : (x : Int) ∈ topL n M) (Q : Nat → Bool) (hqx : Q x = true) (hc : ∀ a y, a < n → y < n → Q a = true → ent M y a ≤ ent M a y → Q y = true) : ∀ y, y < n → Q y = true := by
  intro y hy
  cases hq : Q y with
  | true => rfl
  | false =>
    exfalso
    have ht := (mem_topL.1 hx).2
    rw [inTop_iff] at ht
    have hxn := (mem_topL.1 hx).1
    have hb := ht (maskOf (fun z => !Q z) n) (mask_pos (n := n) (x := y) (by rw [maskOf_bit _ hy]; simp [hq])) (maskOf_lt _ n) (dom_iff.2 (fun a ha b hb h1 h2 => by
      rw [maskOf_bit _ ha] at h1
      rw [maskOf_bit _ hb] at h2
      simp at h1 h2
      rcases Int.lt_or_le (ent M b a) (ent M a b) with h | h
      · exact h
      · have := hc b a hb ha h2 h
        rw [this] at h1; cases h1))
    rw [maskOf_bit _ hxn, hqx] at hb
    cases hb
theorem maxOf_ge {p : List Int} {k : Nat} (hk : k < p.length) : ∀ m, k < m → m ≤ p.length → p.getD k 0 ≤ (p.take m).foldl max ((p.take m).headD 0) := by
  have key : ∀ (l : List Int) (a : Int), (a ≤ l.foldl max a) ∧ ∀ x ∈ l, x ≤ l.foldl max a := by
    intro l
    induction l with
    | nil => intro a; exact ⟨Int.le_refl _, fun x hx => by cases hx⟩
    | cons b l ih =>
      intro a
      simp only [List.foldl_cons]
      have h := ih (max a b)
      refine ⟨by have := h.1; omega, fun x hx => ?_⟩
      rcases List.mem_cons.1 hx with rfl | hx
      · have := h.1; omega
      · exact h.2 x hx
  intro m hkm hm
  refine (key (p.take m) _).2 _ ?_
  have : p.getD k 0 = (p.take m)[k]'(by rw [List.length_take]; omega) := by
    rw [List.getElem_take, List.getD_eq_getElem?_getD, List.getElem?_eq_getElem hk]; rfl
  rw [this]
  exact List.getElem_mem _
end Fm
/-
  Sums over the sides: a side's points are its duels' sum, two sides share the votes, each vote has one first.
-/
namespace Fm
set_option linter.unusedVariables false

theorem tot_map (S : List Int) (f : Int → Int) (φ : Int → Nat) : tot (S.map f) φ = tot S (fun x => φ (f x)) := by
  unfold tot; rw [List.map_map]; rfl
theorem tot_succ (n : Nat) (φ : Int → Nat) : tot (sides (n + 1)) φ = tot (sides n) φ + φ n := by
  rw [sides_succ, tot_append, tot_cons, tot_nil]; omega
theorem tot_sides0 (φ : Int → Nat) : tot (sides 0) φ = 0 := rfl
theorem map_pos {n : Nat} {p : List Int} (hp : p.Perm (sides n)) : p.map (pos p) = sides n := by
  have hl := hp.length_eq
  rw [sides_len] at hl
  refine eq_sides (by rw [List.length_map]; exact hl) (fun j hj => ?_)
  have hj' : j < p.length := by omega
  rw [getD_get (by rw [List.length_map]; exact hj'), List.getElem_map, ← getD_get hj']
  exact pos_idx (hp.nodup_iff.2 (sides_nodup n)) hj'
theorem tot_pos {n : Nat} {p : List Int} (hp : p.Perm (sides n)) (φ : Int → Nat) : tot (sides n) (fun y => φ (pos p y)) = tot (sides n) φ := by
  rw [← tot_perm hp, ← tot_map, map_pos hp]
theorem tot_above (a : Nat) (n : Nat) : tot (sides n) (fun k => if (a : Int) < k then 1 else 0) = n - (a + 1) := by
  induction n with
  | zero => simp [tot_sides0]
  | succ n ih =>
    rw [tot_succ, ih]
    by_cases h : a < n
    · rw [if_pos (by omega)]; omega
    · rw [if_neg (by omega)]; omega
theorem tot_first (n : Nat) : tot (sides n) (fun k => if k = 0 then 1 else 0) = if 0 < n then 1 else 0 := by
  induction n with
  | zero => simp [tot_sides0]
  | succ n ih =>
    rw [tot_succ, ih]
    by_cases h : 0 < n
    · rw [if_pos h, if_neg (by omega), if_pos (by omega)]
    · rw [if_neg h, if_pos (by omega), if_pos (by omega)]
theorem sum_duels {n : Nat} {V : List (List Int)} (hV : ∀ p ∈ V, p.Perm (sides n)) {x : Nat} (hx : x < n) : ((tot (sides n) fun y => cnt V x y : Nat) : Int) = pts n V x := by
  induction V with
  | nil => simp [cnt, pts, tot_zero.2]
  | cons p V ih =>
    have hp := hV p (List.mem_cons_self ..)
    have ih := ih fun q hq => hV q (List.mem_cons_of_mem _ hq)
    have e : (fun y => cnt (p :: V) x y) = fun y => (if pos p x < pos p y then 1 else 0) + cnt V x y := by
      funext y
      unfold cnt
      rw [List.countP_cons]
      by_cases h : pos p x < pos p y <;> simp [h] <;> omega
    obtain ⟨b1, b2⟩ := pos_range hp hx
    obtain ⟨a, ha⟩ : ∃ a : Nat, pos p x = a := ⟨(pos p x).toNat, by omega⟩
    rw [e, tot_add, tot_pos hp (fun k => if pos p x < k then 1 else 0), ha, tot_above]
    show _ = ((n : Int) - 1 - pos p x) + pts n V x
    rw [ha] at b2 ⊢
    have ih' : ((tot (sides n) (cnt V x) : Nat) : Int) = pts n V x := ih
    omega
theorem sum_firsts {n : Nat} (h1 : 0 < n) {V : List (List Int)} (hV : ∀ p ∈ V, p.Perm (sides n)) : tot (sides n) (fun x => fst1 V x) = V.length := by
  induction V with
  | nil => simp [fst1, tot_zero.2]
  | cons p V ih =>
    have hp := hV p (List.mem_cons_self ..)
    have ih := ih fun q hq => hV q (List.mem_cons_of_mem _ hq)
    have e : (fun x => fst1 (p :: V) x) = fun y => (if pos p y = 0 then 1 else 0) + fst1 V y := by
      funext y
      unfold fst1
      rw [List.countP_cons]
      by_cases h : pos p y = 0 <;> simp [h] <;> omega
    rw [e, tot_add, tot_pos hp (fun k => if k = 0 then 1 else 0), tot_first, if_pos h1, ih, List.length_cons]
    omega
theorem duel_both {n : Nat} {V : List (List Int)} (hV : ∀ p ∈ V, p.Perm (sides n)) {x y : Nat} (hx : x < n) (hy : y < n) (hne : x ≠ y) : cnt V x y + cnt V y x = V.length := by
  induction V with
  | nil => rfl
  | cons p V ih =>
    have hp := hV p (List.mem_cons_self ..)
    have ih := ih fun q hq => hV q (List.mem_cons_of_mem _ hq)
    have hn : pos p x ≠ pos p y := fun h => by
      have := pos_inj (hp.nodup_iff.2 (sides_nodup n)) (hp.mem_iff.2 (mem_sides.2 ⟨by omega, by omega⟩)) (hp.mem_iff.2 (mem_sides.2 ⟨by omega, by omega⟩)) h
      omega
    unfold cnt at ih ⊢
    rw [List.countP_cons, List.countP_cons, List.length_cons, ← ih]
    by_cases h : pos p x < pos p y
    · have h2 : ¬ pos p y < pos p x := by omega
      simp [h, h2]; omega
    · have h2 : pos p y < pos p x := by omega
      simp [h, h2]; omega
theorem tot_le_sides (n : Nat) (φ : Int → Nat) (b : Nat) (h : ∀ x, φ x ≤ b) : tot (sides n) φ ≤ n * b := by
  induction n with
  | zero => simp [tot_sides0]
  | succ n ih => rw [tot_succ, Nat.succ_mul]; have := h n; omega
end Fm
/-
  Copeland's scores, counted pair by pair: lists of ints alone, no Go text.
-/
namespace Fm
set_option linter.unusedVariables false

/-- x beats y. -/
def btB (M : List (List Int)) (x y : Nat) : Bool := decide (ent M y x < ent M x y)
theorem btB_irr (M : List (List Int)) (x : Nat) : btB M x x = false := by simp [btB]
/-- How many of the first t are beaten by z, and beat z. -/
def winc (M : List (List Int)) (z : Nat) : Nat → Int
  | 0 => 0
  | t + 1 => winc M z t + if btB M z t then 1 else 0
def lossc (M : List (List Int)) (z : Nat) : Nat → Int
  | 0 => 0
  | t + 1 => lossc M z t + if btB M t z then 1 else 0
theorem winc_bd (M : List (List Int)) (z t : Nat) : 0 ≤ winc M z t ∧ winc M z t ≤ t := by
  induction t with
  | zero => simp [winc]
  | succ t ih => simp only [winc]; split <;> omega
theorem lossc_bd (M : List (List Int)) (z t : Nat) : 0 ≤ lossc M z t ∧ lossc M z t ≤ t := by
  induction t with
  | zero => simp [lossc]
  | succ t ih => simp only [lossc]; split <;> omega
theorem wins_split (M : List (List Int)) (z t : Nat) : winTo M z t = winc M z t - lossc M z t := by
  induction t with
  | zero => rfl
  | succ t ih =>
    simp only [winTo, winc, lossc, ih]
    have : sg (ent M z t - ent M t z) = (if btB M z t then 1 else 0) - (if btB M t z then (1 : Int) else 0) := by
      unfold sg btB
      by_cases h1 : ent M t z < ent M z t
      · rw [if_pos (by omega)]; simp [h1, show ¬ ent M z t < ent M t z by omega]
      · by_cases h2 : ent M z t < ent M t z
        · rw [if_neg (by omega), if_pos (by omega)]; simp [h1, h2]
        · rw [if_neg (by omega), if_neg (by omega)]; simp [h1, h2]
    omega
/-- The scores when all pairs of the first k, and those of k with the first j, have been met. -/
def scTo (M : List (List Int)) (n k j : Nat) (z : Int) : Int :=
  (if z < (k : Int) then winc M z.toNat n else if z = (k : Int) then winc M z.toNat j else 0) - lossc M z.toNat (if z < (j : Int) then k + 1 else k)
theorem scTo_bd (M : List (List Int)) {n k j : Nat} (hk : k ≤ n) (hj : j ≤ n) (z : Int) : -(n : Int) - 1 ≤ scTo M n k j z ∧ scTo M n k j z ≤ n := by
  unfold scTo
  have h1 := winc_bd M z.toNat n
  have h2 := winc_bd M z.toNat j
  have h3 := lossc_bd M z.toNat k
  have h4 := lossc_bd M z.toNat (k + 1)
  by_cases a : z < (k : Int)
  · rw [if_pos a]
    by_cases b : z < (j : Int)
    · rw [if_pos b]; omega
    · rw [if_neg b]; omega
  · rw [if_neg a]
    by_cases c : z = (k : Int)
    · rw [if_pos c]
      by_cases b : z < (j : Int)
      · rw [if_pos b]; omega
      · rw [if_neg b]; omega
    · rw [if_neg c]
      by_cases b : z < (j : Int)
      · rw [if_pos b]; omega
      · rw [if_neg b]; omega
theorem scTo_zero (M : List (List Int)) (n : Nat) : fnL n (fun _ => 0) = fnL n (scTo M n 0 0) := by
  refine fnL_congr n (fun z hz => ?_)
  unfold scTo
  rw [if_neg (show ¬ (z : Int) < ((0 : Nat) : Int) by omega), if_neg (show ¬ (z : Int) < ((0 : Nat) : Int) by omega)]
  split <;> simp [lossc, winc]
theorem scTo_next (M : List (List Int)) (n k : Nat) : fnL n (scTo M n k n) = fnL n (scTo M n (k + 1) 0) := by
  refine fnL_congr n (fun z hz => ?_)
  unfold scTo
  rw [if_pos (show (z : Int) < (n : Int) by omega), if_neg (show ¬ (z : Int) < ((0 : Nat) : Int) by omega)]
  by_cases a : (z : Int) < (k : Int)
  · rw [if_pos a, if_pos (by omega)]
  · rw [if_neg a]
    by_cases c : (z : Int) = (k : Int)
    · rw [if_pos c, if_pos (by omega)]
    · rw [if_neg c, if_neg (by omega)]
      split <;> simp [winc]
theorem scTo_end (M : List (List Int)) (n : Nat) : fnL n (scTo M n n 0) = winsL n M := by
  refine fnL_congr n (fun z hz => ?_)
  unfold scTo
  rw [if_pos (by omega), if_neg (by omega), wins_split]
theorem scTo_not (M : List (List Int)) (n : Nat) {k j : Nat} (h : btB M k j = false) : fnL n (scTo M n k j) = fnL n (scTo M n k (j + 1)) := by
  refine fnL_congr n (fun z hz => ?_)
  unfold scTo
  have e1 : (if (z : Int) < (k : Int) then winc M ((z : Int)).toNat n else if (z : Int) = (k : Int) then winc M ((z : Int)).toNat j else 0) = (if (z : Int) < (k : Int) then winc M ((z : Int)).toNat n else if (z : Int) = (k : Int) then winc M ((z : Int)).toNat (j + 1) else 0) := by
    by_cases a : (z : Int) < (k : Int)
    · rw [if_pos a, if_pos a]
    · rw [if_neg a, if_neg a]
      by_cases c : (z : Int) = (k : Int)
      · rw [if_pos c, if_pos c]
        have : z = k := by omega
        subst this
        simp [winc, h]
      · rw [if_neg c, if_neg c]
  rw [e1]
  congr 1
  by_cases b : (z : Int) < (j : Int)
  · rw [if_pos b, if_pos (by omega)]
  · rw [if_neg b]
    by_cases c : (z : Int) = j
    · rw [if_pos (by omega)]
      have : z = j := by omega
      subst this
      simp [lossc, h]
    · rw [if_neg (by omega)]
theorem scTo_won (M : List (List Int)) {n : Nat} {k j : Nat} (hk : k < n) (hj : j < n) (h : btB M k j = true) :
    ((fnL n (scTo M n k j)).set k (scTo M n k j k + 1)).set j (scTo M n k j j - 1) = fnL n (scTo M n k (j + 1)) := by
  have hne : k ≠ j := fun e => by subst e; rw [btB_irr] at h; cases h
  rw [fnL_set n _ hk, fnL_set n _ hj]
  refine fnL_congr n (fun z hz => ?_)
  by_cases hzj : (z : Int) = j
  · rw [if_pos hzj]
    have : z = j := by omega
    subst this
    unfold scTo
    rw [if_neg (show ¬ (z : Int) < (z : Int) by omega), if_pos (show (z : Int) < ((z + 1 : Nat) : Int) by omega)]
    have hz0 : ((z : Int)).toNat = z := by omega
    rw [hz0]
    simp only [lossc, h, if_true]
    rw [if_neg (show ¬ (z : Int) = (k : Int) by omega), if_neg (show ¬ (z : Int) = (k : Int) by omega)]
    omega
  · rw [if_neg hzj]
    by_cases hzk : (z : Int) = k
    · rw [if_pos hzk]
      have : z = k := by omega
      subst this
      unfold scTo
      have hz0 : ((z : Int)).toNat = z := by omega
      rw [if_neg (show ¬ (z : Int) < (z : Int) by omega), if_pos rfl, if_neg (show ¬ (z : Int) < (z : Int) by omega), if_pos rfl, hz0]
      simp only [winc, h, if_true]
      by_cases b : (z : Int) < (j : Int)
      · rw [if_pos b, if_pos (by omega)]; omega
      · rw [if_neg b, if_neg (by omega)]; omega
    · rw [if_neg hzk]
      unfold scTo
      rw [if_neg hzk, if_neg hzk]
      by_cases b : (z : Int) < (j : Int)
      · rw [if_pos b, if_pos (show (z : Int) < ((j + 1 : Nat) : Int) by omega)]
      · rw [if_neg b, if_neg (show ¬ (z : Int) < ((j + 1 : Nat) : Int) by omega)]
end Fm
/-
  The smallest set that holds one alternative and of which each beats all others, found member by member: no Go text.
-/
namespace Fm
set_option linter.unusedVariables false

/-- Each of Q beats each one outside of it. -/
def Closed (n : Nat) (M : List (List Int)) (Q : Nat → Bool) : Prop := ∀ x y, x < n → y < n → Q x = true → Q y = false → btB M x y = true
def LeastOf (n : Nat) (M : List (List Int)) (f : Nat) (P : Nat → Bool) : Prop := ∀ Q : Nat → Bool, Q f = true → Closed n M Q → ∀ x, x < n → P x = true → Q x = true
def Clo (n : Nat) (M : List (List Int)) (f : Nat) (P : Nat → Bool) : Prop := P f = true ∧ Closed n M P ∧ LeastOf n M f P
def upd (P : Nat → Bool) (j : Nat) : Nat → Bool := fun z => if z = j then true else P z
theorem upd_true {P : Nat → Bool} {j z : Nat} (h : P z = true) : upd P j z = true := by unfold upd; split <;> simp [h]
theorem upd_false {P : Nat → Bool} {j z : Nat} (h : upd P j z = false) : P z = false ∧ z ≠ j := by
  unfold upd at h
  by_cases e : z = j
  · rw [if_pos e] at h; cases h
  · rw [if_neg e] at h; exact ⟨h, e⟩
def cntB (n : Nat) (P : Nat → Bool) : Nat := ((List.range n).filter P).length
theorem cntB_le (n : Nat) (P : Nat → Bool) : cntB n P ≤ n := by unfold cntB; exact Nat.le_trans (List.length_filter_le _ _) (by simp)
theorem cntB_upd {n : Nat} {P : Nat → Bool} {j : Nat} (hj : j < n) (h : P j = false) : cntB n (upd P j) = cntB n P + 1 := by
  unfold cntB
  induction n with
  | zero => omega
  | succ n ih =>
    rw [List.range_succ, List.filter_append, List.filter_append, List.length_append, List.length_append]
    by_cases e : j = n
    · subst e
      have e1 : (List.range j).filter (upd P j) = (List.range j).filter P := by
        apply List.filter_congr
        intro x hx
        have := List.mem_range.1 hx
        unfold upd; rw [if_neg (by omega)]
      rw [e1]
      simp [upd, h]
    · have := ih (by omega)
      have e2 : [n].filter (upd P j) = [n].filter P := by
        apply List.filter_congr
        intro x hx
        have := List.mem_singleton.1 hx
        unfold upd; rw [if_neg (by omega)]
      rw [e2]; omega

/-- What holds between two members: P so far, q still to be looked at. -/
structure QInv (n : Nat) (M : List (List Int)) (f : Nat) (P : Nat → Bool) (q : List Nat) : Prop where
  pf : P f = true
  qn : ∀ x ∈ q, x < n ∧ P x = true
  done : ∀ x, x < n → P x = true → x ∈ q ∨ ∀ y, y < n → P y = false → btB M x y = true
  least : LeastOf n M f P
/-- What holds while x is looked at, behind the first j. -/
structure IInv (n : Nat) (M : List (List Int)) (f x j : Nat) (P : Nat → Bool) (q : List Nat) : Prop where
  pf : P f = true
  xn : x < n
  px : P x = true
  qn : ∀ z ∈ q, z < n ∧ P z = true
  done : ∀ z, z < n → P z = true → z ∈ q ∨ z = x ∨ ∀ y, y < n → P y = false → btB M z y = true
  part : ∀ y, y < j → P y = false → btB M x y = true
  least : LeastOf n M f P
section
variable {n : Nat} {M : List (List Int)} {f x j : Nat} {P : Nat → Bool} {q : List Nat}
theorem qInv_start (hf : f < n) : QInv n M f (upd (fun _ => false) f) [f] where
  pf := by simp [upd]
  qn := fun z hz => by have := List.mem_singleton.1 hz; subst this; exact ⟨hf, by simp [upd]⟩
  done := fun z hz hp => by
    left
    unfold upd at hp
    by_cases e : z = f
    · simp [e]
    · rw [if_neg e] at hp; cases hp
  least := fun Q hq _ z hz hp => by
    unfold upd at hp
    by_cases e : z = f
    · subst e; exact hq
    · rw [if_neg e] at hp; cases hp
theorem QInv.pop (h : QInv n M f P (x :: q)) : IInv n M f x 0 P q where
  pf := h.pf
  xn := (h.qn x (by simp)).1
  px := (h.qn x (by simp)).2
  qn := fun z hz => h.qn z (by simp [hz])
  done := fun z hz hp => by
    rcases h.done z hz hp with h1 | h1
    · rcases List.mem_cons.1 h1 with h2 | h2
      · exact .inr (.inl h2)
      · exact .inl h2
    · exact .inr (.inr h1)
  part := fun y hy => by omega
  least := h.least
theorem IInv.end_ (h : IInv n M f x n P q) : QInv n M f P q where
  pf := h.pf
  qn := h.qn
  done := fun z hz hp => by
    rcases h.done z hz hp with h1 | h1 | h1
    · exact .inl h1
    · subst h1; exact .inr (fun y hy hpy => h.part y hy hpy)
    · exact .inr h1
  least := h.least
theorem IInv.skip (h : IInv n M f x j P q) (hs : P j = true ∨ btB M x j = true) : IInv n M f x (j + 1) P q :=
  ⟨h.pf, h.xn, h.px, h.qn, h.done, fun y hy hp => by
    by_cases e : y = j
    · subst e
      rcases hs with h1 | h1
      · rw [h1] at hp; cases hp
      · exact h1
    · exact h.part y (by omega) hp, h.least⟩
theorem IInv.take (h : IInv n M f x j P q) (hj : j < n) (hp : P j = false) (hb : btB M x j = false) : IInv n M f x (j + 1) (upd P j) (q ++ [j]) where
  pf := upd_true h.pf
  xn := h.xn
  px := upd_true h.px
  qn := fun z hz => by
    rcases List.mem_append.1 hz with h1 | h1
    · exact ⟨(h.qn z h1).1, upd_true (h.qn z h1).2⟩
    · have := List.mem_singleton.1 h1; subst this; exact ⟨hj, by simp [upd]⟩
  done := fun z hz hpz => by
    by_cases e : z = j
    · subst e; exact .inl (by simp)
    · unfold upd at hpz; rw [if_neg e] at hpz
      rcases h.done z hz hpz with h1 | h1 | h1
      · exact .inl (by simp [h1])
      · exact .inr (.inl h1)
      · exact .inr (.inr (fun y hy hpy => h1 y hy (upd_false hpy).1))
  part := fun y hy hpy => by
    obtain ⟨h1, h2⟩ := upd_false hpy
    exact h.part y (by omega) h1
  least := fun Q hq hc z hz hpz => by
    by_cases e : z = j
    · subst e
      have hx := h.least Q hq hc x h.xn h.px
      cases hqz : Q z with
      | true => rfl
      | false => have := hc x z h.xn hz hx hqz; rw [hb] at this; cases this
    · unfold upd at hpz; rw [if_neg e] at hpz
      exact h.least Q hq hc z hz hpz
theorem QInv.clo (h : QInv n M f P []) : Clo n M f P :=
  ⟨h.pf, fun a b ha hb h1 h2 => by
    rcases h.done a ha h1 with h3 | h3
    · cases h3
    · exact h3 b hb h2, h.least⟩
end
/-- The alternatives of P, in increasing order. -/
def listB (P : Nat → Bool) (k : Nat) : List Int := ((List.range k).filter P).map fun (i : Nat) => (i : Int)
theorem listB_zero (P : Nat → Bool) : listB P 0 = [] := rfl
theorem listB_yes {P : Nat → Bool} {k : Nat} (h : P k = true) : listB P (k + 1) = listB P k ++ [(k : Int)] := by
  unfold listB; rw [List.range_succ, List.filter_append, List.map_append]; simp [h]
theorem listB_no {P : Nat → Bool} {k : Nat} (h : P k = false) : listB P (k + 1) = listB P k := by
  unfold listB; rw [List.range_succ, List.filter_append, List.map_append]; simp [h]
theorem listB_len (P : Nat → Bool) (k : Nat) : (listB P k).length ≤ k := by
  unfold listB; rw [List.length_map]; exact Nat.le_trans (List.length_filter_le _ _) (by simp)
theorem clo_top {n : Nat} {M : List (List Int)} {f : Nat} {P : Nat → Bool} (hf : f < n) (h : Clo n M f P) (hmax : ∀ z, z < n → winTo M z n ≤ winTo M f n) : listB P n = topL n M := by
  have hin := best_top hf hmax
  symm
  refine topL_of P ⟨f, hf, h.1⟩ (fun x y hx hy h1 h2 => by have := h.2.1 x y hx hy h1 h2; simpa [btB] using this) (fun Q hne hd x hx hp => ?_)
  refine h.2.2 Q ?_ (fun a b ha hb h1 h2 => by simpa [btB] using hd a b ha hb h1 h2) x hx hp
  unfold topL at hin
  obtain ⟨f', hf', e⟩ := List.mem_map.1 hin
  have : f' = f := by omega
  subst this
  have hit := inTop_iff.1 (List.mem_filter.1 hf').2
  obtain ⟨z, hz, hqz⟩ := hne
  have hb := hit (maskOf Q n) (mask_pos (n := n) (x := z) (by rw [maskOf_bit Q hz]; exact hqz)) (maskOf_lt Q n) (dom_iff.2 (fun a ha b hb h1 h2 => by
    rw [maskOf_bit Q ha] at h1
    rw [maskOf_bit Q hb] at h2
    exact hd a b ha hb h1 h2))
  rwa [maskOf_bit Q hf] at hb
end Fm
/-
  Words of our own on slices of slices of ints that a call has made, over any program.
-/
namespace Fm
open Go Go.RowKit
set_option linter.unusedVariables false

/-- Each of vs is a row of its own, from block base on, and together they read as L. -/
def Elems (w : World) (base : Nat) (e : TypeId) (vs : List Value) (L : List (List Int)) : Prop :=
  vs.length = L.length ∧ ∀ j v, vs[j]? = some v → w.ownsRow base e 1 v (L.getD j []).length (I (L.getD j []))

section
variable {w w' : World} {base : Nat} {e : TypeId} {vs : List Value} {L : List (List Int)}
theorem Elems.nil_ : Elems w base e [] [] := ⟨rfl, fun j v h => by simp at h⟩
theorem Elems.below (h : Elems w base e vs L) {B : Nat} (hb : Below B w w') (hB : w.heap.size ≤ B) : Elems w' base e vs L :=
  ⟨h.1, fun j v hv => own_below (h.2 j v hv) hb hB⟩
theorem Elems.mono (h : Elems w base e vs L) {base' : Nat} (hb : base' ≤ base) : Elems w base' e vs L :=
  ⟨h.1, fun j v hv => own_mono (h.2 j v hv) hb⟩
theorem own_kind {n : Nat} {v : Value} {xs : List Value} (h : w.ownsRow base e 1 v n xs) {g : Nat} (hg : v.ownBlock = some g) : ∃ c, w.heap[g]? = some (.cells c e (0, 0)) := by
  rcases h.2 with ⟨rfl, _⟩ | ⟨g', cap, cur, rfl, _, hh, _⟩
  · simp [Value.ownBlock] at hg
  · simp [Value.ownBlock] at hg; subst hg; exact ⟨cur, hh⟩
theorem Elems.kept (h : Elems w base e vs L) {row : Option Nat} (hg : w.grownBy w' row) (hr : ∀ g, row = some g → g < base ∨ ∃ c t, w.heap[g]? = some (.cells c t (0, 0)) ∧ t ≠ e) : Elems w' base e vs L := by
  refine ⟨h.1, fun j v hv => (h.2 j v hv).kept hg ?_⟩
  cases hb : v.ownBlock with
  | none => exact .inl rfl
  | some k =>
    right
    intro he
    rcases hr k he.symm with h1 | ⟨c, t, h1, h2⟩
    · have := ((h.2 j v hv).lt k hb).1; omega
    · obtain ⟨c', h3⟩ := own_kind (h.2 j v hv) hb
      rw [h3] at h1
      injection h1 with h1
      injection h1 with _ h1
      exact h2 h1.symm
theorem own_drewN {n size : Nat} {v : Value} {xs : List Value} (h : w.ownsRow base e size v n xs) (k : Nat) : (w.drewN k).ownsRow base e size v n xs := h
theorem Elems.drewN (h : Elems w base e vs L) (k : Nat) : Elems (w.drewN k) base e vs L := h
theorem Elems.snoc (h : Elems w base e vs L) {v : Value} {l : List Int} (hv : w.ownsRow base e 1 v l.length (I l)) : Elems w base e (vs ++ [v]) (L ++ [l]) := by
  refine ⟨by simp [h.1], fun j u hu => ?_⟩
  by_cases hj : j < vs.length
  · rw [List.getElem?_append_left hj] at hu
    have e1 : (L ++ [l]).getD j [] = L.getD j [] := by
      rw [List.getD_eq_getElem?_getD, List.getD_eq_getElem?_getD, List.getElem?_append_left (by rw [← h.1]; exact hj)]
    rw [e1]
    exact h.2 j u hu
  · rw [List.getElem?_append_right (by omega)] at hu
    have hj0 : j - vs.length = 0 := by
      rcases Nat.eq_zero_or_pos (j - vs.length) with h0 | h0
      · exact h0
      · rw [List.getElem?_eq_none (by simp; omega)] at hu; cases hu
    rw [hj0] at hu
    simp at hu
    subst hu
    have hjl : j = L.length := by rw [← h.1]; omega
    subst hjl
    have e1 : (L ++ [l]).getD L.length [] = l := by simp [List.getD_eq_getElem?_getD]
    rw [e1]
    exact hv
/-- The j-th of them, out of the slice that holds them. -/
theorem Elems.at_ (h : Elems w base e vs L) {j : Nat} (hj : j < L.length) : ∃ v, vs[j]? = some v ∧ w.ownsRow base e 1 v (L.getD j []).length (I (L.getD j [])) := by
  have : j < vs.length := by rw [h.1]; exact hj
  exact ⟨vs[j], List.getElem?_eq_getElem this, h.2 j _ (List.getElem?_eq_getElem this)⟩
end

/-- n zeros, as make lays them. -/
def zeros (n : Nat) : Array Value := (I (List.replicate n 0)).toArray
theorem madeCells_zeros (n : Nat) : madeCells (Value.int .i64 0).cells n = zeros n := by
  apply Array.ext'
  have h := toList_madeCells_one (.int .i64 0) n
  have e : (Value.int .i64 0).cells = #[.int .i64 0] := rfl
  rw [e, h]
  simp [zeros, I]

/-- Rows of different element types lie apart. -/
theorem own_far {w : World} {base base' n n' : Nat} {e e' : TypeId} {v v' : Value} {xs xs' : List Value} (h : w.ownsRow base e 1 v n xs) (h' : w.ownsRow base' e' 1 v' n' xs') (hne : e ≠ e') : v'.ownBlock = none ∨ v'.ownBlock ≠ v.ownBlock := by
  cases hb : v'.ownBlock with
  | none => exact .inl rfl
  | some b =>
    right
    intro he
    obtain ⟨c, hc⟩ := own_kind h he.symm
    obtain ⟨c', hc'⟩ := own_kind h' hb
    rw [hc] at hc'
    injection hc' with hc'
    injection hc' with _ hc'
    exact hne hc'

/-- The slice of n slices at a reads in w as L; what it reads lies below block B. -/
def RdR (w : World) (B : Nat) (a : Option Addr) (n : Nat) (L : List (List Int)) : Prop :=
  L.length = n ∧ (0 < n → ∃ b o, a = some ⟨b, o, none⟩ ∧ b < B ∧ ∀ j, j < n → ∃ a' c', w.cell? ⟨b, o + j, none⟩ = some (.slice a' (L.getD j []).length c') ∧ (L.getD j []).length ≤ c' ∧ (a' = none → c' = 0) ∧ c' ≤ maxLen ∧ Rd w B a' (L.getD j []).length (L.getD j []))
section
variable {w w' : World} {B B' n : Nat} {a : Option Addr} {L : List (List Int)}
theorem RdR.nil_ : RdR w B a 0 [] := ⟨rfl, fun h => absurd h (by omega)⟩
theorem RdR.keep (h : RdR w B a n L) (hk : ∀ p : Addr, p.block < B → w'.cell? p = w.cell? p) : RdR w' B a n L :=
  ⟨h.1, fun hn => by
    obtain ⟨b, o, e, hb, hc⟩ := h.2 hn
    refine ⟨b, o, e, hb, fun j hj => ?_⟩
    obtain ⟨a', c', h1, h2, h3, h4, h5⟩ := hc j hj
    exact ⟨a', c', (hk _ hb).trans h1, h2, h3, h4, h5.keep hk⟩⟩
theorem RdR.more (h : RdR w B a n L) (hB : B ≤ B') : RdR w B' a n L :=
  ⟨h.1, fun hn => by
    obtain ⟨b, o, e, hb, hc⟩ := h.2 hn
    refine ⟨b, o, e, by omega, fun j hj => ?_⟩
    obtain ⟨a', c', h1, h2, h3, h4, h5⟩ := hc j hj
    exact ⟨a', c', h1, h2, h3, h4, h5.more hB⟩⟩
theorem RdR.below (h : RdR w B a n L) (hb : Below B' w w') (hB : B ≤ B') : RdR w' B a n L := h.keep fun p hp => hb.cell (by omega)
theorem RdR.drewN (h : RdR w B a n L) (k : Nat) : RdR (w.drewN k) B a n L := h
theorem RdR.drew (h : RdR w B a n L) : RdR w.drew B a n L := h
theorem RdR.alloc (h : RdR w B a n L) (hB : B ≤ w.heap.size) (o : Obj) : RdR (w.alloc o) B a n L := h.keep fun p hp => World.cell?_alloc_lt w o p (by omega)
theorem RdR.at_ (h : RdR w B a n L) {k : Nat} (hk : k < n) : ∃ b o a' c', a = some ⟨b, o, none⟩ ∧ b < B ∧ w.cell? ⟨b, o + k, none⟩ = some (.slice a' (L.getD k []).length c') ∧ (L.getD k []).length ≤ c' ∧ (a' = none → c' = 0) ∧ c' ≤ maxLen ∧ Rd w B a' (L.getD k []).length (L.getD k []) := by
  obtain ⟨b, o, e, hb, hc⟩ := h.2 (by omega)
  obtain ⟨a', c', h1, h2, h3, h4, h5⟩ := hc k hk
  exact ⟨b, o, a', c', e, hb, h1, h2, h3, h4, h5⟩
/-- Rows that a call has made read as what they hold. -/
theorem RdR.of_own {base c : Nat} {e e' : TypeId} {vs : List Value} (h : w.ownsRow base e 1 (.slice a n c) n vs) (hn : L.length = n) (he : Elems w base e' vs L) : RdR w w.heap.size a n L := by
  refine ⟨hn, fun h0 => ?_⟩
  obtain ⟨g, cap, hv, _, hlt⟩ := h.form h0
  injection hv with hv _ hv3
  subst hv; subst hv3
  refine ⟨g, 0, rfl, hlt, fun j hj => ?_⟩
  obtain ⟨v, hvj, ho⟩ := he.at_ (j := j) (by omega)
  obtain ⟨a', c', rfl, h1, h2⟩ := own_slice ho
  exact ⟨a', c', by rw [Nat.zero_add, h.cellAt j (by omega)]; exact hvj, h1, own_nil ho, h2, Rd.of_own ho⟩
end
end Fm
/-
  An argument of a law, opened: a slice of ints, a slice of slices of ints, as the row's own reading gives it: over any program.
-/
namespace Fm
open Go Go.RowKit Go.ChangeShapes Go.WideShapes Go.Deep
set_option linter.unusedVariables false

def Ok64 (x : Int) : Prop := -9223372036854775808 ≤ x ∧ x ≤ 9223372036854775807
/-- The value is a slice that reads as the ints l. -/
def IsInts (w : World) (v : Value) (l : List Int) : Prop :=
  ∃ a c, v = .slice a l.length c ∧ Rd w w.heap.size a l.length l ∧ (∀ x ∈ l, Ok64 x) ∧ l.length ≤ c ∧ (a = none → c = 0) ∧ c ≤ maxLen ∧ l.length * 8 ≤ 140737488355328
/-- The value is a slice of slices that reads as L. -/
def IsRows (w : World) (v : Value) (L : List (List Int)) : Prop :=
  ∃ a c, v = .slice a L.length c ∧ RdR w w.heap.size a L.length L ∧ (∀ l ∈ L, (∀ x ∈ l, Ok64 x) ∧ l.length * 8 ≤ 140737488355328) ∧ L.length ≤ c ∧ (a = none → c = 0) ∧ c ≤ maxLen ∧ L.length * 24 ≤ 140737488355328

section
variable {H : Type} {enc : TypeId × Value → H} {P : Program} {w : World} {ts : List TypeId} {ds : List (DataW H)}

theorem open_isInts {t e : TypeId} {v : Value} {d : DataW H} {p : List MemPlace} (ht : P.underlying t = some (.slice e)) (he : P.underlying e = some (.int .i64)) (hc : P.cellsOf e = 1) (hb : P.bytesOf e = 8) {r : Reach} {bs : Nat}
    (hv : Value.okWide P w r bs t v) (h : DataW.Trod enc P w 0 (fun _ => true) true t v d p) (hsz : (DataW.weightsEach P ts ds).all (· ≤ reachBytes) = true) {j : Nat} (hj : ts[j]? = some t) (hd : ds[j]? = some d) : ∃ l, IsInts w v l := by
  obtain ⟨a, len, cap, rfl⟩ := okWide_slice ht hv
  obtain ⟨fuel, hf⟩ := h
  rcases open_ints ht he hc hf with ⟨hcs, _⟩ | ⟨x, l, c, zs, hcs, _, hl, hm, hz, hx, hcell, hwz⟩
  · simp [Value.cells] at hcs
    obtain ⟨rfl, rfl, rfl⟩ := hcs
    exact ⟨[], none, 0, rfl, Rd.nil_, fun x hx => by simp at hx, Nat.le_refl _, fun _ => rfl, by unfold maxLen; omega, by simp⟩
  · simp [Value.cells] at hcs
    obtain ⟨rfl, rfl, rfl⟩ := hcs
    have hzl : zs.length = cap := by simpa using hz
    have hdd := (Prod.mk.inj hx).1
    rw [hdd] at hd
    have hs := sized_slice hsz hj hd ht
    rw [hb] at hs
    simp only [lits, List.length_map, List.length_take, List.length_drop, reachBytes] at hs
    have e1 : (zs.take len).length = len := by rw [List.length_take]; omega
    refine ⟨zs.take len, some x, cap, by rw [e1], ?_, fun y hy => bounds_i64 (hwz y (List.mem_of_mem_take hy)), by rw [e1]; exact hl, (fun h => by cases h), hm, by rw [e1]; omega⟩
    rw [e1]
    exact Rd.of_cells (by omega) hcell

theorem weights_in {t e q : TypeId} {elems spare e' sp' : List (DataW H)} (hsz : (DataW.weightsEach P ts ds).all (· ≤ reachBytes) = true) {j : Nat} (hj : ts[j]? = some t) (hd : ds[j]? = some (.slice elems spare)) (ht : P.underlying t = some (.slice e)) (he : P.underlying e = some (.slice q))
    (hx : DataW.slice e' sp' ∈ elems) : (e'.length + sp'.length) * P.bytesOf q ≤ reachBytes := by
  refine of_decide_eq_true (List.all_eq_true.1 hsz _ (DataW.weights_mem_each hj hd _ ?_))
  simp only [DataW.weights, ht, List.mem_cons, List.mem_append]
  refine Or.inr (Or.inl ?_)
  clear hd hsz hj
  induction elems with
  | nil => simp at hx
  | cons y ys ih =>
    simp only [DataW.weightsAll, List.mem_append]
    rcases List.mem_cons.1 hx with h | h
    · left; rw [← h]; simp [DataW.weights, he]
    · right; exact ih h

theorem open_isRows {t e q : TypeId} {v : Value} {d : DataW H} {p : List MemPlace} (ht : P.underlying t = some (.slice e)) (he : P.underlying e = some (.slice q)) (hq : P.underlying q = some (.int .i64)) (ce : P.cellsOf e = 1) (cq : P.cellsOf q = 1) (be : P.bytesOf e = 24) (bq : P.bytesOf q = 8) {r : Reach} {bs : Nat}
    (hv : Value.okWide P w r bs t v) (h : DataW.Trod enc P w 0 (fun _ => true) true t v d p) (hsz : (DataW.weightsEach P ts ds).all (· ≤ reachBytes) = true) {j : Nat} (hj : ts[j]? = some t) (hd : ds[j]? = some d) : ∃ L, IsRows w v L := by
  obtain ⟨a, len, cap, rfl⟩ := okWide_slice ht hv
  obtain ⟨fuel, hf⟩ := h
  rcases open_int_rows ht he hq ce cq hf with ⟨hcs, _⟩ | ⟨x, l, c, A, Ln, C, Z, hcs, _, hl, hm, hx, hrow⟩
  · simp [Value.cells] at hcs
    obtain ⟨rfl, rfl, rfl⟩ := hcs
    exact ⟨[], none, 0, rfl, RdR.nil_, fun l hl => by simp at hl, Nat.le_refl _, fun _ => rfl, by unfold maxLen; omega, by simp⟩
  · simp [Value.cells] at hcs
    obtain ⟨rfl, rfl, rfl⟩ := hcs
    have hdd := (Prod.mk.inj hx).1
    rw [hdd] at hd
    have hs := sized_slice hsz hj hd ht
    rw [be] at hs
    simp only [List.length_map, List.length_range, reachBytes] at hs
    have e1 : ((List.range len).map fun i => (Z i).take (Ln i)).length = len := by simp
    have e2 : ∀ i, i < len → ((List.range len).map fun i => (Z i).take (Ln i)).getD i [] = (Z i).take (Ln i) := fun i hi => by
      rw [List.getD_eq_getElem?_getD, List.getElem?_map, List.getElem?_range hi]; rfl
    have e3 : ∀ i, i < len → ((Z i).take (Ln i)).length = Ln i := fun i hi => by
      have := hrow i (by omega); rw [List.length_take]; omega
    refine ⟨(List.range len).map fun i => (Z i).take (Ln i), some x, cap, by rw [e1], ?_, fun l hl => ?_, by rw [e1]; exact hl, (fun h => by cases h), hm, by rw [e1]; omega⟩
    · rw [e1]
      refine ⟨e1, fun hn => ?_⟩
      have h0 := (hrow 0 (by omega)).1
      have ex : x.add 0 = x := by simp [Addr.add]
      rw [ex] at h0
      have hlt := World.block_lt_of_cell? w x h0
      obtain ⟨b, o, sp⟩ := x
      have hsp : sp = none := by
        cases sp with
        | none => rfl
        | some s =>
          exfalso
          simp only [World.cell?] at h0
          split at h0 <;> simp at h0
      subst hsp
      refine ⟨b, o, rfl, hlt, fun i hi => ?_⟩
      obtain ⟨h1, h2, h3, h4, h5, h6, h7⟩ := hrow i (by omega)
      have ea : (⟨b, o, none⟩ : Addr).add i = ⟨b, o + i, none⟩ := by unfold Addr.add; split <;> simp_all
      rw [ea] at h1
      rw [e2 i hi, e3 i hi]
      refine ⟨A i, C i, h1, h2, h6, h3, ?_⟩
      cases hA : A i with
      | none =>
        have := h6 hA
        have hl0 : Ln i = 0 := by omega
        rw [hl0]
        exact Rd.nil_
      | some a' => exact Rd.of_cells (by omega) (fun c hc => (h7 a' hA).2 c (by omega))
    · rw [List.mem_map] at hl
      obtain ⟨i, hi, rfl⟩ := hl
      have hi := List.mem_range.1 hi
      obtain ⟨h1, h2, h3, h4, h5, h6, h7⟩ := hrow i (by omega)
      refine ⟨fun y hy => bounds_i64 (h5 y (List.mem_of_mem_take hy)), ?_⟩
      rw [e3 i hi]
      cases hA : A i with
      | none => have := h6 hA; omega
      | some a' =>
        have hmem : (DataW.slice (lits .i64 ((Z i).take (Ln i))) (lits .i64 ((Z i).drop (Ln i))) : DataW H) ∈ (List.range len).map fun r => intRow .i64 (A r) (Ln r) (Z r) := by
          rw [List.mem_map]
          exact ⟨i, List.mem_range.2 hi, by simp [intRow, hA]⟩
        have hw := weights_in hsz hj hd ht he hmem
        rw [bq] at hw
        simp only [lits, List.length_map, List.length_take, List.length_drop, reachBytes] at hw
        omega
end
end Fm
/-
  Literals of slices of slices of ints, of one, two, three rows, as they are laid: over any program.
-/
namespace Fm
open Go Go.RowKit
set_option linter.unusedVariables false

/-- A literal of slices reads as what they hold. -/
theorem rdr_lit (w : World) (t : TypeId) (L : List (List Int)) (cs : Array Value) (hcs : cs.size = L.length) (h : ∀ j, j < L.length → ∃ a' c', cs[j]? = some (.slice a' (L.getD j []).length c') ∧ (L.getD j []).length ≤ c' ∧ (a' = none → c' = 0) ∧ c' ≤ maxLen ∧ Rd w w.heap.size a' (L.getD j []).length (L.getD j [])) :
    RdR (w.alloc (.cells cs t)) (w.heap.size + 1) (some ⟨w.heap.size, 0, none⟩) L.length L := by
  refine ⟨rfl, fun _ => ⟨w.heap.size, 0, rfl, by omega, fun j hj => ?_⟩⟩
  obtain ⟨a', c', h1, h2, h3, h4, h5⟩ := h j hj
  refine ⟨a', c', ?_, h2, h3, h4, (h5.alloc (Nat.le_refl _) _).more (by omega)⟩
  rw [Nat.zero_add, World.cell?_alloc_new]
  simpa using h1
/-- What a literal leaves. -/
def LitOut (w W : World) (a : Option Addr) (L : List (List Int)) : Prop := RdR W W.heap.size a L.length L ∧ Below w.heap.size w W
theorem lit1 (w : World) (t e : TypeId) (r1 : List Int) (c1 : Array Value) (e1 : c1 = (I r1).toArray) (k1 : r1.length ≤ 1000) :
    LitOut w ((w.alloc (.cells c1 t)).alloc (.cells #[.slice (some ⟨w.heap.size, 0, none⟩) r1.length r1.length] e)) (some ⟨w.heap.size + 1, 0, none⟩) [r1] := by
  have a1 := Rd.lit w t r1 c1 e1
  have h := rdr_lit (w.alloc (.cells c1 t)) e [r1] #[.slice (some ⟨w.heap.size, 0, none⟩) r1.length r1.length] rfl (fun j hj => by
    match j, hj with
    | 0, _ => exact ⟨_, r1.length, rfl, Nat.le_refl _, by simp, by unfold maxLen; omega, a1.more (by simp)⟩)
  simp only [World.size_alloc] at h
  exact ⟨h.more (by simp), ((Below.refl _ _).alloc (by omega) _).alloc (by simp) _⟩
theorem lit2 (w : World) (t e : TypeId) (r1 r2 : List Int) (c1 c2 : Array Value) (e1 : c1 = (I r1).toArray) (e2 : c2 = (I r2).toArray) (k1 : r1.length ≤ 1000) (k2 : r2.length ≤ 1000) :
    LitOut w (((w.alloc (.cells c1 t)).alloc (.cells c2 t)).alloc (.cells #[.slice (some ⟨w.heap.size, 0, none⟩) r1.length r1.length, .slice (some ⟨w.heap.size + 1, 0, none⟩) r2.length r2.length] e)) (some ⟨w.heap.size + 1 + 1, 0, none⟩) [r1, r2] := by
  have a1 := (Rd.lit w t r1 c1 e1).alloc (by simp) (.cells c2 t)
  have a2 := Rd.lit (w.alloc (.cells c1 t)) t r2 c2 e2
  simp only [World.size_alloc] at a2
  have h := rdr_lit ((w.alloc (.cells c1 t)).alloc (.cells c2 t)) e [r1, r2] #[.slice (some ⟨w.heap.size, 0, none⟩) r1.length r1.length, .slice (some ⟨w.heap.size + 1, 0, none⟩) r2.length r2.length] rfl (fun j hj => by
    match j, hj with
    | 0, _ => exact ⟨_, r1.length, rfl, Nat.le_refl _, by simp, by unfold maxLen; omega, a1.more (by simp)⟩
    | 1, _ => exact ⟨_, r2.length, rfl, Nat.le_refl _, by simp, by unfold maxLen; omega, a2.more (by simp)⟩)
  simp only [World.size_alloc] at h
  exact ⟨h.more (by simp), (((Below.refl _ _).alloc (by omega) _).alloc (by simp) _).alloc (by simp; omega) _⟩
theorem lit3 (w : World) (t e : TypeId) (r1 r2 r3 : List Int) (c1 c2 c3 : Array Value) (e1 : c1 = (I r1).toArray) (e2 : c2 = (I r2).toArray) (e3 : c3 = (I r3).toArray) (k1 : r1.length ≤ 1000) (k2 : r2.length ≤ 1000) (k3 : r3.length ≤ 1000) :
    LitOut w ((((w.alloc (.cells c1 t)).alloc (.cells c2 t)).alloc (.cells c3 t)).alloc (.cells #[.slice (some ⟨w.heap.size, 0, none⟩) r1.length r1.length, .slice (some ⟨w.heap.size + 1, 0, none⟩) r2.length r2.length, .slice (some ⟨w.heap.size + 1 + 1, 0, none⟩) r3.length r3.length] e)) (some ⟨w.heap.size + 1 + 1 + 1, 0, none⟩) [r1, r2, r3] := by
  have a1 := ((Rd.lit w t r1 c1 e1).alloc (by simp) (.cells c2 t)).alloc (by simp) (.cells c3 t)
  have a2 := (Rd.lit (w.alloc (.cells c1 t)) t r2 c2 e2).alloc (by simp) (.cells c3 t)
  have a3 := Rd.lit ((w.alloc (.cells c1 t)).alloc (.cells c2 t)) t r3 c3 e3
  simp only [World.size_alloc] at a2 a3
  have h := rdr_lit (((w.alloc (.cells c1 t)).alloc (.cells c2 t)).alloc (.cells c3 t)) e [r1, r2, r3] #[.slice (some ⟨w.heap.size, 0, none⟩) r1.length r1.length, .slice (some ⟨w.heap.size + 1, 0, none⟩) r2.length r2.length, .slice (some ⟨w.heap.size + 1 + 1, 0, none⟩) r3.length r3.length] rfl (fun j hj => by
    match j, hj with
    | 0, _ => exact ⟨_, r1.length, rfl, Nat.le_refl _, by simp, by unfold maxLen; omega, a1.more (by simp)⟩
    | 1, _ => exact ⟨_, r2.length, rfl, Nat.le_refl _, by simp, by unfold maxLen; omega, a2.more (by simp)⟩
    | 2, _ => exact ⟨_, r3.length, rfl, Nat.le_refl _, by simp, by unfold maxLen; omega, a3.more (by simp)⟩)
  simp only [World.size_alloc] at h
  exact ⟨h.more (by simp), ((((Below.refl _ _).alloc (by omega) _).alloc (by simp) _).alloc (by simp; omega) _).alloc (by simp; omega) _⟩
/-- A new block of one cell, as a row of the call's own. -/
theorem own_box (w : World) (t : TypeId) (v : Value) : (w.alloc (.cells #[v] t)).ownsRow w.heap.size t 1 (.slice (some ⟨w.heap.size, 0, none⟩) 1 1) 1 [v] :=
  ⟨rfl, .inr ⟨w.heap.size, 1, #[v], rfl, Nat.le_refl _, heap_alloc_new w _, Nat.le_refl _, by unfold maxLen; omega, rfl, rfl⟩⟩
end Fm
/-
  Words of our own on a matrix of ints that a call has made (rows of its own, no two in one block), over any program.
-/
namespace Fm
open Go Go.RowKit
set_option linter.unusedVariables false

def Apart (vs : List Value) : Prop := ∀ (i j : Nat) (u v : Value), vs[i]? = some u → vs[j]? = some v → i ≠ j → u.ownBlock = none ∨ u.ownBlock ≠ v.ownBlock

/-- v is a slice of slices of the call's own that reads as M; no two of its rows lie in one block. -/
def Mat (w : World) (B : Nat) (e2 e : TypeId) (v : Value) (M : List (List Int)) : Prop :=
  ∃ vs, w.ownsRow B e2 1 v M.length vs ∧ Elems w B e vs M ∧ Apart vs

theorem getElem?_set_ne {α : Type} (l : List α) {i j : Nat} (h : i ≠ j) (x : α) : (l.set i x)[j]? = l[j]? := by rw [List.getElem?_set, if_neg h]
theorem getD_setR (M : List (List Int)) (i j : Nat) (l : List Int) (hi : i < M.length) : (M.set i l).getD j [] = if i = j then l else M.getD j [] := by
  rw [List.getD_eq_getElem?_getD, List.getD_eq_getElem?_getD, List.getElem?_set]
  by_cases h : i = j
  · subst h; simp [hi]
  · simp [h]

section
variable {w w' : World} {B : Nat} {e2 e : TypeId} {v : Value} {M : List (List Int)}
theorem Mat.below (h : Mat w B e2 e v M) {B' : Nat} (hb : Below B' w w') (hB : w.heap.size ≤ B') : Mat w' B e2 e v M := by
  obtain ⟨vs, h1, h2, h3⟩ := h
  exact ⟨vs, own_below h1 hb hB, h2.below hb hB, h3⟩
theorem Mat.drewN (h : Mat w B e2 e v M) (k : Nat) : Mat (w.drewN k) B e2 e v M := h
theorem Mat.mono (h : Mat w B e2 e v M) {B' : Nat} (hb : B' ≤ B) : Mat w B' e2 e v M := by
  obtain ⟨vs, h1, h2, h3⟩ := h
  exact ⟨vs, own_mono h1 hb, h2.mono hb, h3⟩
theorem Mat.rd {a : Option Addr} {n c : Nat} (h : Mat w B e2 e (.slice a n c) M) (hn : M.length = n) : RdR w w.heap.size a n M := by
  obtain ⟨vs, h1, h2, h3⟩ := h
  subst hn
  exact RdR.of_own h1 rfl h2
theorem Mat.form (h : Mat w B e2 e v M) (hn : 0 < M.length) : ∃ g cap, v = .slice (some ⟨g, 0, none⟩) M.length cap ∧ B ≤ g ∧ g < w.heap.size ∧ M.length ≤ cap ∧ cap ≤ maxLen := by
  obtain ⟨vs, h1, _⟩ := h
  obtain ⟨g, cap, rfl, h2, h3⟩ := h1.form hn
  refine ⟨g, cap, rfl, h2, h3, ?_⟩
  rcases h1.2 with ⟨h, _⟩ | ⟨g', cap', cur, h, _, _, h5, h6, _⟩
  · cases h
  · injection h with _ _ h; subst h; exact ⟨h5, h6⟩
/-- The x-th row: where it stands, and that it is one of the call's own. -/
theorem Mat.row {g n cap : Nat} (h : Mat w B e2 e (.slice (some ⟨g, 0, none⟩) n cap) M) (hn : M.length = n) {x : Nat} (hx : x < n) :
    ∃ u, w.cell? ⟨g, x, none⟩ = some u ∧ w.frozen? ⟨g, x, none⟩ = false ∧ w.ownsRow B e 1 u (M.getD x []).length (I (M.getD x [])) := by
  obtain ⟨vs, h1, h2, _⟩ := h
  subst hn
  obtain ⟨u, hu, ho⟩ := h2.at_ hx
  exact ⟨u, by rw [h1.cellAt x (by omega)]; exact hu, h1.frozenAt x, ho⟩

/-- A row that has just been made is put in the x-th place. -/
theorem Mat.setRow {g n cap : Nat} (h : Mat w B e2 e (.slice (some ⟨g, 0, none⟩) n cap) M) (hn : M.length = n) {x : Nat} (hx : x < n) (hne : e2 ≠ e) (hb : Below w.heap.size w w') {u : Value} {l : List Int}
    (hu : w'.ownsRow w.heap.size e 1 u l.length (I l)) (hB : B ≤ w.heap.size) : Mat (w'.setCell ⟨g, x, none⟩ u) B e2 e (.slice (some ⟨g, 0, none⟩) n cap) (M.set x l) ∧ w'.grownBy (w'.setCell ⟨g, x, none⟩ u) (some g) := by
  obtain ⟨vs, h1, h2, h3⟩ := h
  subst hn
  have h1' := own_below h1 hb (Nat.le_refl _)
  have h2' := h2.below hb (Nat.le_refl _)
  obtain ⟨s1, s2⟩ := h1'.stored x u
  have hgk := own_kind h1' (g := g) rfl
  refine ⟨⟨vs.set x u, by simpa using s1, ⟨by simp [h2.1], fun j y hy => ?_⟩, fun i j y z hy hz hij => ?_⟩, s2⟩
  · rw [getD_setR M x j l hx]
    by_cases hxj : x = j
    · subst hxj
      rw [List.getElem?_set_self (by rw [h2.1]; exact hx)] at hy
      injection hy with hy
      subst hy
      rw [if_pos rfl]
      exact own_mono (hu.kept s2 (own_far h1' hu hne)) hB
    · rw [getElem?_set_ne vs hxj] at hy
      rw [if_neg hxj]
      have ho := h2'.2 j y hy
      exact ho.kept s2 (own_far h1' ho hne)
  · by_cases hxi : x = i
    · subst hxi
      rw [List.getElem?_set_self (by rw [h2.1]; exact hx)] at hy
      injection hy with hy
      subst hy
      rw [getElem?_set_ne vs hij] at hz
      cases hub : u.ownBlock with
      | none => exact .inl rfl
      | some k =>
        right
        intro he
        have a1 := (hu.lt k hub).1
        have a2 := ((h2.2 j z hz).lt k he.symm).2
        omega
    · rw [getElem?_set_ne vs hxi] at hy
      by_cases hxj : x = j
      · subst hxj
        rw [List.getElem?_set_self (by rw [h2.1]; exact hx)] at hz
        injection hz with hz
        subst hz
        cases hyb : y.ownBlock with
        | none => exact .inl rfl
        | some k =>
          right
          intro he
          have a1 := (hu.lt k he.symm).1
          have a2 := ((h2.2 i y hy).lt k hyb).2
          omega
      · rw [getElem?_set_ne vs hxj] at hz
        exact h3 i j y z hy hz hij

/-- A cell of the x-th row is written. -/
theorem Mat.setCell {g n cap g' m cap' : Nat} (h : Mat w B e2 e (.slice (some ⟨g, 0, none⟩) n cap) M) (hn : M.length = n) {x : Nat} (hx : x < n) (hne : e2 ≠ e) (hm : (M.getD x []).length = m)
    (hc : w.cell? ⟨g, x, none⟩ = some (.slice (some ⟨g', 0, none⟩) m cap')) (y : Nat) (z : Int) :
    Mat (w.setCell ⟨g', y, none⟩ (.int .i64 z)) B e2 e (.slice (some ⟨g, 0, none⟩) n cap) (M.set x ((M.getD x []).set y z)) ∧ w.grownBy (w.setCell ⟨g', y, none⟩ (.int .i64 z)) (some g') := by
  obtain ⟨vs, h1, h2, h3⟩ := h
  subst hn
  obtain ⟨u, hu, ho⟩ := h2.at_ hx
  have hcu : some u = some (.slice (some ⟨g', 0, none⟩) m cap') := by rw [← hu, ← h1.cellAt x (by omega)]; exact hc
  injection hcu with hcu
  subst hcu
  rw [hm] at ho
  obtain ⟨s1, s2⟩ := ho.stored y (.int .i64 z)
  have es : (I (M.getD x [])).set y (.int .i64 z) = I ((M.getD x []).set y z) := by unfold I; rw [List.map_set]
  rw [es] at s1
  refine ⟨⟨vs, ?_, ⟨by simp [h2.1], fun j u hu' => ?_⟩, h3⟩, s2⟩
  · have hk := h1.kept s2 (own_far ho h1 (Ne.symm hne))
    simpa using hk
  · rw [getD_setR M x j _ hx]
    by_cases hxj : x = j
    · subst hxj
      rw [hu] at hu'
      injection hu' with hu'
      subst hu'
      rw [if_pos rfl]
      have el : ((M.getD x []).set y z).length = m := by rw [List.length_set, hm]
      rw [el]
      exact s1
    · rw [if_neg hxj]
      have hj := h2.2 j u hu'
      refine hj.kept s2 ?_
      have := h3 j x u _ hu' hu (Ne.symm hxj)
      exact this
/-- n rows, all nil: as make lays them. -/
def nils (n : Nat) : Array Value := (List.replicate n (Value.slice none 0 0)).toArray
theorem madeCells_nils (n : Nat) : madeCells (Value.slice none 0 0).cells n = nils n := by
  apply Array.ext'
  have h := toList_madeCells_one (.slice none 0 0) n
  have e : (Value.slice none 0 0).cells = #[.slice none 0 0] := rfl
  rw [e, h]
  simp [nils]
theorem Mat.made (w : World) (e2 e : TypeId) (n : Nat) (hn : n ≤ maxLen) : Mat (w.alloc (.cells (nils n) e2)) w.heap.size e2 e (.slice (some ⟨w.heap.size, 0, none⟩) n n) (List.replicate n []) := by
  refine ⟨List.replicate n (.slice none 0 0), ⟨by simp, .inr ⟨w.heap.size, n, nils n, by simp, Nat.le_refl _, heap_alloc_new w _, by simp, hn, by simp [nils], by simp [nils]⟩⟩, ⟨by simp, fun j v hv => ?_⟩, fun i j u v hu hv hij => ?_⟩
  · rw [List.getElem?_replicate] at hv
    split at hv
    · injection hv with hv; subst hv
      rename_i hj
      have e1 : (List.replicate n ([] : List Int)).getD j [] = [] := by simp [List.getD_eq_getElem?_getD, hj]
      rw [e1]
      exact World.ownsRow_nil _ _ _ _
    · cases hv
  · rw [List.getElem?_replicate] at hu
    split at hu
    · injection hu with hu; subst hu; exact .inl rfl
    · cases hu
end
end Fm
/-
  McGarvey's ballots: what they count, lists of ints alone, no Go text.
-/
namespace Fm
set_option linter.unusedVariables false

def bal1 (n : Nat) (b : List Int) : List Int := b ++ others n b
def bal2 (n : Nat) (b : List Int) : List Int := (others n b).reverse ++ b
def bef (p : List Int) (x y : Int) : Int := if pos p x < pos p y then 1 else 0
/-- What one pair adds to the margin of x over y. -/
def con (n : Nat) (b : List Int) (x y : Int) : Int := (bef (bal1 n b) x y + bef (bal2 n b) x y) - (bef (bal1 n b) y x + bef (bal2 n b) y x)
def conV (p q x y : Nat) : Int := if x = p ∧ y = q then 2 else if x = q ∧ y = p then -2 else 0
def conOk (n : Nat) : Bool := (List.range n).all fun p => (List.range n).all fun q => p == q || (List.range n).all fun x => (List.range n).all fun y => decide (con n [(p : Int), (q : Int)] x y = conV p q x y)
theorem conOk_all : conOk 0 = true ∧ conOk 1 = true ∧ conOk 2 = true ∧ conOk 3 = true ∧ conOk 4 = true ∧ conOk 5 = true ∧ conOk 6 = true := by decide +kernel
theorem six {P : Nat → Prop} (h : P 0 ∧ P 1 ∧ P 2 ∧ P 3 ∧ P 4 ∧ P 5 ∧ P 6) {n : Nat} (hn : n < 7) : P n := by
  obtain ⟨h0, h1, h2, h3, h4, h5, h6⟩ := h
  match n, hn with
  | 0, _ => exact h0
  | 1, _ => exact h1
  | 2, _ => exact h2
  | 3, _ => exact h3
  | 4, _ => exact h4
  | 5, _ => exact h5
  | 6, _ => exact h6
theorem con_all (n : Nat) (hn : n < 7) (p : Nat) (hp : p < n) (q : Nat) (hq : q < n) (hpq : p ≠ q) (x : Nat) (hx : x < n) (y : Nat) (hy : y < n) :
    con n [(p : Int), (q : Int)] x y = if x = p ∧ y = q then 2 else if x = q ∧ y = p then -2 else 0 := by
  have h := six (P := fun n => conOk n = true) conOk_all hn
  unfold conOk at h
  simp only [List.all_eq_true, List.mem_range, Bool.or_eq_true, beq_iff_eq, decide_eq_true_eq] at h
  rcases h p hp q hq with h | h
  · exact absurd h hpq
  · exact h x hx y hy
def ordOk (n : Nat) : Bool := (List.range n).all fun p => (List.range n).all fun q => p == q || (decide (chk n (bal1 n [(p : Int), (q : Int)]) = 0) && decide (chk n (bal2 n [(p : Int), (q : Int)]) = 0))
theorem ordOk_all : ordOk 0 = true ∧ ordOk 1 = true ∧ ordOk 2 = true ∧ ordOk 3 = true ∧ ordOk 4 = true ∧ ordOk 5 = true ∧ ordOk 6 = true := by decide +kernel
theorem bal_ord (n : Nat) (hn : n < 7) (p : Nat) (hp : p < n) (q : Nat) (hq : q < n) (hpq : p ≠ q) : chk n (bal1 n [(p : Int), (q : Int)]) = 0 ∧ chk n (bal2 n [(p : Int), (q : Int)]) = 0 := by
  have h := six (P := fun n => ordOk n = true) ordOk_all hn
  unfold ordOk at h
  simp only [List.all_eq_true, List.mem_range, Bool.or_eq_true, Bool.and_eq_true, beq_iff_eq, decide_eq_true_eq] at h
  rcases h p hp q hq with h | h
  · exact absurd h hpq
  · exact h

theorem pair_form {n : Int} {b : List Int} (h : okPair n b) : b = [b.getD 0 0, b.getD 1 0] := by
  obtain ⟨h1, _⟩ := h
  match b, h1 with
  | [x, y], _ => rfl
theorem pair_nat {n : Nat} {b : List Int} (h : okPair n b) : ∃ p q : Nat, b = [(p : Int), (q : Int)] ∧ p < n ∧ q < n ∧ p ≠ q := by
  have e := pair_form h
  obtain ⟨_, h2, h3, h4⟩ := h
  refine ⟨(b.getD 0 0).toNat, (b.getD 1 0).toNat, ?_, by omega, by omega, by omega⟩
  rw [show (((b.getD 0 0).toNat : Nat) : Int) = b.getD 0 0 by omega, show (((b.getD 1 0).toNat : Nat) : Int) = b.getD 1 0 by omega]
  exact e
theorem mcg_cons (n : Nat) (b : List Int) (L : List (List Int)) : mcg n (b :: L) = bal1 n b :: bal2 n b :: mcg n L := rfl
def dif (V : List (List Int)) (x y : Int) : Int := (cnt V x y : Int) - cnt V y x
theorem cnt_cons (p : List Int) (V : List (List Int)) (x y : Int) : (cnt (p :: V) x y : Int) = bef p x y + cnt V x y := by
  unfold cnt bef
  rw [List.countP_cons]
  by_cases h : pos p x < pos p y <;> simp [h] <;> omega
theorem dif_cons (n : Nat) (b : List Int) (L : List (List Int)) (x y : Int) : dif (mcg n (b :: L)) x y = con n b x y + dif (mcg n L) x y := by
  unfold dif con
  rw [mcg_cons, cnt_cons, cnt_cons, cnt_cons, cnt_cons]
  omega
/-- No two are the same pair, either way round. -/
def Fresh (L : List (List Int)) : Prop := L.Pairwise fun a b => a ≠ b ∧ a ≠ b.reverse
theorem dif_mcg {n : Nat} (h6 : n ≤ 6) {L : List (List Int)} (hok : ∀ b ∈ L, okPair n b) (hf : Fresh L) {x y : Nat} (hx : x < n) (hy : y < n) :
    ([(x : Int), (y : Int)] ∈ L → dif (mcg n L) x y = 2) ∧ ([(y : Int), (x : Int)] ∈ L → dif (mcg n L) x y = -2) ∧ ([(x : Int), (y : Int)] ∉ L → [(y : Int), (x : Int)] ∉ L → dif (mcg n L) x y = 0) := by
  induction L with
  | nil => exact ⟨(fun h => by cases h), (fun h => by cases h), fun _ _ => by simp [dif, mcg, cnt]⟩
  | cons b L ih =>
    have hf' := List.pairwise_cons.1 hf
    obtain ⟨i1, i2, i3⟩ := ih (fun c hc => hok c (by simp [hc])) hf'.2
    obtain ⟨p, q, rfl, hp, hq, hpq⟩ := pair_nat (hok b (by simp))
    rw [dif_cons, con_all n (by omega) p hp q hq hpq x hx y hy]
    have n1 : ∀ c ∈ L, c ≠ [(p : Int), (q : Int)] := fun c hc e => (hf'.1 c hc).1 e.symm
    have n2 : ∀ c ∈ L, c ≠ [(q : Int), (p : Int)] := fun c hc e => (hf'.1 c hc).2 (by rw [e]; rfl)
    by_cases h1 : x = p ∧ y = q
    · obtain ⟨rfl, rfl⟩ := h1
      rw [if_pos ⟨rfl, rfl⟩]
      have a1 : [(x : Int), (y : Int)] ∉ L := fun h => n1 _ h rfl
      have a2 : [(y : Int), (x : Int)] ∉ L := fun h => n2 _ h rfl
      have a3 := i3 a1 a2
      refine ⟨fun _ => by omega, fun h => ?_, fun h => absurd (by simp) h⟩
      rcases List.mem_cons.1 h with h | h
      · injection h with h _; omega
      · exact absurd h a2
    · rw [if_neg h1]
      by_cases h2 : x = q ∧ y = p
      · obtain ⟨rfl, rfl⟩ := h2
        rw [if_pos ⟨rfl, rfl⟩]
        have a1 : [(x : Int), (y : Int)] ∉ L := fun h => n2 _ h rfl
        have a2 : [(y : Int), (x : Int)] ∉ L := fun h => n1 _ h rfl
        have a3 := i3 a1 a2
        refine ⟨fun h => ?_, fun _ => by omega, fun _ h => absurd (by simp) h⟩
        rcases List.mem_cons.1 h with h | h
        · injection h with h h'; injection h' with h' _; omega
        · exact absurd h a1
      · rw [if_neg h2, Int.zero_add]
        have e1 : [(x : Int), (y : Int)] ∈ [(p : Int), (q : Int)] :: L ↔ [(x : Int), (y : Int)] ∈ L := by
          constructor
          · intro h
            rcases List.mem_cons.1 h with h | h
            · injection h with h h'; injection h' with h' _; exact absurd ⟨by omega, by omega⟩ h1
            · exact h
          · exact fun h => List.mem_cons_of_mem _ h
        have e2 : [(y : Int), (x : Int)] ∈ [(p : Int), (q : Int)] :: L ↔ [(y : Int), (x : Int)] ∈ L := by
          constructor
          · intro h
            rcases List.mem_cons.1 h with h | h
            · injection h with h h'; injection h' with h' _; exact absurd ⟨by omega, by omega⟩ h2
            · exact h
          · exact fun h => List.mem_cons_of_mem _ h
        rw [e1, e2]
        exact ⟨i1, i2, i3⟩
theorem mcg_ok {n : Nat} (h1 : 1 ≤ n) (h6 : n ≤ 6) {L : List (List Int)} (hok : ∀ b ∈ L, okPair n b) (hL : L.length ≤ 15) (hlen : (mcg n L).length = 2 * L.length) : vchk n (mcg n L) = 0 := by
  refine vchk_ok (by omega) (by omega) (fun l hl => ?_)
  unfold mcg at hl
  rw [List.mem_flatMap] at hl
  obtain ⟨b, hb, hl⟩ := hl
  obtain ⟨p, q, rfl, hp, hq, hpq⟩ := pair_nat (hok b hb)
  have := bal_ord n (by omega) p hp q hq hpq
  simp at hl
  rcases hl with rfl | rfl
  · exact this.1
  · exact this.2
def code (b : List Int) : Int := min (b.getD 0 0) (b.getD 1 0) * 6 + max (b.getD 0 0) (b.getD 1 0)
def codes : List Int := [1, 2, 3, 4, 5, 8, 9, 10, 11, 15, 16, 17, 22, 23, 29]
theorem code_in : ∀ p, p < 6 → ∀ q, q < 6 → p ≠ q → code [((p : Nat) : Int), ((q : Nat) : Int)] ∈ codes := by decide +kernel
theorem nodup_codes : ∀ (l m : List Int), l.Nodup → (∀ x ∈ l, x ∈ m) → l.length ≤ m.length := by
  intro l
  induction l with
  | nil => intro m _ _; simp
  | cons a t ih =>
    intro m hn hs
    have ha := hs a (by simp)
    rw [List.nodup_cons] at hn
    have h1 := ih (m.erase a) hn.2 (fun x hx => by
      have hne : x ≠ a := fun e => hn.1 (e ▸ hx)
      exact (List.mem_erase_of_ne hne).2 (hs x (by simp [hx])))
    rw [List.length_erase_of_mem ha] at h1
    have := List.length_pos_of_mem ha
    simp
    omega
theorem fresh_len {n : Nat} (h6 : n ≤ 6) {L : List (List Int)} (hok : ∀ b ∈ L, okPair n b) (hf : Fresh L) : L.length ≤ 15 := by
  have hn : (L.map code).Nodup := by
    rw [List.Nodup, List.pairwise_map]
    refine (List.pairwise_iff_forall_sublist.2 ?_)
    intro a b hab
    have hm := List.pairwise_iff_forall_sublist.1 hf hab
    have ha := pair_nat (hok a (hab.subset (by simp)))
    have hb := pair_nat (hok b (hab.subset (by simp)))
    obtain ⟨p, q, rfl, hp, hq, hpq⟩ := ha
    obtain ⟨r, s, rfl, hr, hs, hrs⟩ := hb
    intro he
    unfold code at he
    simp at he
    have : (p = r ∧ q = s) ∨ (p = s ∧ q = r) := by omega
    rcases this with ⟨rfl, rfl⟩ | ⟨rfl, rfl⟩
    · exact hm.1 rfl
    · exact hm.2 rfl
  have := nodup_codes (L.map code) codes hn (fun x hx => by
    rw [List.mem_map] at hx
    obtain ⟨b, hb, rfl⟩ := hx
    obtain ⟨p, q, rfl, hp, hq, hpq⟩ := pair_nat (hok b hb)
    exact code_in p (by omega) q (by omega) hpq)
  rw [List.length_map] at this
  exact this
theorem fresh_snoc {L : List (List Int)} (hf : Fresh L) {x y : Int} (h1 : [x, y] ∉ L) (h2 : [y, x] ∉ L) : Fresh (L ++ [[x, y]]) := by
  unfold Fresh
  rw [List.pairwise_append]
  refine ⟨hf, by simp, fun a ha b hb => ?_⟩
  simp at hb
  subst hb
  exact ⟨fun e => h1 (e ▸ ha), fun e => h2 (by rw [e] at ha; exact ha)⟩
end Fm
/-
  Neighbours exchanged, and the reversed order: lists of ints alone, no Go text.
-/
namespace Fm
set_option linter.unusedVariables false

def swp (p : List Int) (k : Nat) : List Int := (p.set k (p.getD (k + 1) 0)).set (k + 1) (p.getD k 0)
theorem swp_len (p : List Int) (k : Nat) : (swp p k).length = p.length := by simp [swp]
theorem getD_set (l : List Int) (i j : Nat) (x : Int) (hi : i < l.length) : (l.set i x).getD j 0 = if i = j then x else l.getD j 0 := by
  rw [List.getD_eq_getElem?_getD, List.getD_eq_getElem?_getD, List.getElem?_set]
  by_cases h : i = j
  · subst h; simp [hi]
  · simp [h]
/-- Places k and k + 1 exchanged. -/
def tau (k : Nat) (z : Int) : Int := if z = k then k + 1 else if z = k + 1 then k else z
theorem swp_getD (p : List Int) (k j : Nat) (h : k + 1 < p.length) : (swp p k).getD j 0 = p.getD (tau k j).toNat 0 := by
  unfold swp
  rw [getD_set _ _ _ _ (by simp; omega), getD_set _ _ _ _ (by omega)]
  unfold tau
  by_cases h1 : k + 1 = j
  · rw [if_pos h1, if_neg (by omega), if_pos (by omega)]; congr 1
  · by_cases h2 : k = j
    · rw [if_neg h1, if_pos h2, if_pos (by omega)]; congr 1
    · rw [if_neg h1, if_neg h2, if_neg (by omega), if_neg (by omega)]; congr 1
theorem tau_tau (k : Nat) (z : Int) : tau k (tau k z) = z := by
  unfold tau
  by_cases h : z = k
  · simp [h]
  · by_cases h2 : z = k + 1
    · simp [h2]
    · simp [h, h2]
theorem tau_range {k n : Nat} (h : k + 1 < n) {j : Nat} (hj : j < n) : 0 ≤ tau k j ∧ tau k j < n := by
  unfold tau
  split
  · omega
  · split <;> omega
theorem swp_perm (p : List Int) (k : Nat) (h : k + 1 < p.length) : (swp p k).Perm p := by
  have e1 : p = p.take k ++ p.getD k 0 :: p.getD (k + 1) 0 :: p.drop (k + 2) := by
    rw [getD_get (by omega), getD_get (by omega), ← List.drop_eq_getElem_cons (by omega), ← List.drop_eq_getElem_cons (by omega), List.take_append_drop]
  have e2 : swp p k = p.take k ++ p.getD (k + 1) 0 :: p.getD k 0 :: p.drop (k + 2) := by
    apply List.ext_getElem?
    intro j
    unfold swp
    rw [List.getElem?_set, List.getElem?_set, List.getElem?_append, List.length_take, Nat.min_eq_left (by omega), List.length_set, List.getElem?_take]
    by_cases h1 : j < k
    · rw [if_neg (by omega), if_neg (by omega), if_pos h1, if_pos h1]
    · by_cases h2 : j = k
      · subst h2
        rw [if_neg (by omega), if_pos rfl, if_pos (by omega), if_neg h1, Nat.sub_self]; rfl
      · by_cases h3 : j = k + 1
        · subst h3
          rw [if_pos rfl, if_pos (by omega), if_neg h1, show k + 1 - k = 1 by omega]; rfl
        · rw [if_neg (by omega), if_neg (by omega), if_neg h1]
          obtain ⟨m, rfl⟩ : ∃ m, j = k + 2 + m := ⟨j - (k + 2), by omega⟩
          rw [show k + 2 + m - k = m + 2 by omega]
          simp [List.getElem?_drop]
  have hp : (p.take k ++ p.getD (k + 1) 0 :: p.getD k 0 :: p.drop (k + 2)).Perm (p.take k ++ p.getD k 0 :: p.getD (k + 1) 0 :: p.drop (k + 2)) := List.Perm.append_left _ (List.Perm.swap _ _ _)
  rw [← e1, ← e2] at hp
  exact hp

theorem pos_reverse {p : List Int} {n : Nat} (hn : p.Nodup) (hl : p.length = n) {k : Nat} (hk : k < n) : pos p.reverse (p.getD k 0) = (n : Int) - 1 - k := by
  have h1 : p.reverse.Nodup := (List.reverse_perm p).nodup_iff.2 hn
  have h2 : p.reverse.getD (n - 1 - k) 0 = p.getD k 0 := by
    rw [getD_get (by simp; omega), getD_get (by omega), List.getElem_reverse]
    congr 1
    omega
  rw [← h2, pos_idx h1 (by simp; omega)]
  omega
theorem pos_swp {p : List Int} {n : Nat} (hn : p.Nodup) (hl : p.length = n) {j : Nat} (hj : j + 1 < n) {k : Nat} (hk : k < n) : pos (swp p j) (p.getD k 0) = tau j k := by
  have h1 : (swp p j).Nodup := (swp_perm p j (by omega)).nodup_iff.2 hn
  have hr := tau_range hj hk
  have h2 : (swp p j).getD (tau j k).toNat 0 = p.getD k 0 := by
    rw [swp_getD _ _ _ (by omega), show (((tau j k).toNat : Nat) : Int) = tau j k by omega, tau_tau]
    congr 1
  rw [← h2, pos_idx h1 (by rw [swp_len]; omega)]
  omega

theorem rev_count : ∀ n : Nat, n < 7 → invTo (fun z => (n : Int) - 1 - z) (sides n) n = n * (n - 1) / 2 := by decide
theorem swp_count : ∀ n : Nat, n < 7 → ∀ j, j < n - 1 → invTo (tau j) (sides n) n = 1 := by decide
theorem swp_rev_count : ∀ n : Nat, n < 7 → ∀ j, j < n - 1 → invTo (fun z => (n : Int) - 1 - tau j z) (sides n) n = n * (n - 1) / 2 - 1 := by decide

section
variable {p : List Int} {n : Nat} (hp : p.Nodup) (hl : p.length = n) (h6 : n ≤ 6)
include hp hl h6
theorem inv_reverse : inv p p.reverse = n * (n - 1) / 2 := by
  rw [inv_places hl (fun z => (n : Int) - 1 - z) (fun k hk => pos_reverse hp hl hk), rev_count n (by omega)]
theorem inv_swp {j : Nat} (hj : j + 1 < n) : inv p (swp p j) = 1 := by
  rw [inv_places hl (tau j) (fun k hk => pos_swp hp hl hj hk), swp_count n (by omega) j (by omega)]
theorem inv_swp_reverse {j : Nat} (hj : j + 1 < n) : inv (swp p j) p.reverse = n * (n - 1) / 2 - 1 := by
  rw [inv_places (by rw [swp_len, hl]) (fun z => (n : Int) - 1 - tau j z) (fun k hk => ?_), swp_rev_count n (by omega) j (by omega)]
  have hr := tau_range hj hk
  rw [swp_getD _ _ _ (by omega), pos_reverse hp hl (by omega)]
  omega
end
end Fm
/-
  Reading a square table, cell by cell: over any program.
-/
namespace Fm
open Go Go.RowKit
set_option linter.unusedVariables false

/-- The table at a in w has n rows of n ints, and reads as M. -/
def Sq (w : World) (B b o n : Nat) (M : List (List Int)) : Prop :=
  ∀ x, x < n → ∃ bx ox cx, w.cell? ⟨b, o + x, none⟩ = some (.slice (some ⟨bx, ox, none⟩) n cx) ∧ bx < B ∧ n ≤ cx ∧ cx ≤ maxLen ∧ ∀ y, y < n → w.cell? ⟨bx, ox + y, none⟩ = some (.int .i64 (ent M x y))
theorem rdr_square {w : World} {B n : Nat} {a : Option Addr} {M : List (List Int)} (hr : RdR w B a n M) (hn : 0 < n) (hl : ∀ l ∈ M, l.length = n) : ∃ b o, a = some ⟨b, o, none⟩ ∧ b < B ∧ Sq w B b o n M := by
  obtain ⟨b, o, rfl, hbB, hrows⟩ := hr.2 hn
  refine ⟨b, o, rfl, hbB, fun x hx => ?_⟩
  obtain ⟨a', c', h2, h3, _, h4, h5⟩ := hrows x hx
  have hxl : x < M.length := by rw [hr.1]; exact hx
  have hm : M.getD x [] ∈ M := by rw [List.getD_eq_getElem?_getD, List.getElem?_eq_getElem hxl]; exact List.getElem_mem hxl
  rw [hl _ hm] at h2 h3 h5
  obtain ⟨bx, ox, rfl, h6, h7⟩ := h5.2 hn
  exact ⟨bx, ox, c', h2, h6, h3, h4, h7⟩
theorem Sq.below {w w' : World} {B B' b o n : Nat} {M : List (List Int)} (h : Sq w B b o n M) (hb : Below B' w w') (hB : B ≤ B') (hbB : b < B) : Sq w' B b o n M := fun x hx => by
  obtain ⟨bx, ox, cx, h1, h2, h3, h4, h5⟩ := h x hx
  exact ⟨bx, ox, cx, (hb.cell (by show b < _; omega)).trans h1, h2, h3, h4, fun y hy => (hb.cell (by show bx < _; omega)).trans (h5 y hy)⟩
end Fm
/-
  Votes that are turned: each duel is the other way round; a side's points are those that it lacked.
-/
namespace Fm
set_option linter.unusedVariables false

theorem pos_rev2 {n : Nat} {p : List Int} (hp : p.Perm (sides n)) {x : Nat} (hx : x < n) : pos p.reverse x = (n : Int) - 1 - pos p x := by
  have hnd := hp.nodup_iff.2 (sides_nodup n)
  have hl := hp.length_eq
  rw [sides_len] at hl
  obtain ⟨k, hk, hkx, hpk⟩ := pos_mem hnd (y := (x : Int)) (hp.mem_iff.2 (mem_sides.2 ⟨by omega, by omega⟩))
  have hg : p.reverse.getD (n - 1 - k) 0 = x := by
    have hlt : n - 1 - k < p.reverse.length := by rw [List.length_reverse]; omega
    rw [getD_get hlt, List.getElem_reverse, ← hkx, getD_get hk]
    congr 1
    omega
  have h := pos_idx (p := p.reverse) ((List.reverse_perm p).nodup_iff.2 hnd) (k := n - 1 - k) (by rw [List.length_reverse]; omega)
  rw [hg] at h
  rw [h, hpk]
  omega
theorem turned_mem {n : Nat} {V : List (List Int)} (hV : ∀ p ∈ V, p.Perm (sides n)) : ∀ p ∈ V.map List.reverse, p.Perm (sides n) := fun p hp => by
  rw [List.mem_map] at hp
  obtain ⟨q, hq, rfl⟩ := hp
  exact (List.reverse_perm q).trans (hV q hq)
theorem cnt_turned {n : Nat} {V : List (List Int)} (hV : ∀ p ∈ V, p.Perm (sides n)) {x y : Nat} (hx : x < n) (hy : y < n) : cnt (V.map List.reverse) y x = cnt V x y := by
  unfold cnt
  rw [List.countP_map]
  refine List.countP_congr (fun p hp => ?_)
  simp only [Function.comp_apply, decide_eq_true_eq]
  rw [pos_rev2 (hV p hp) hx, pos_rev2 (hV p hp) hy]
  omega
theorem pts_turned {n : Nat} {V : List (List Int)} (hV : ∀ p ∈ V, p.Perm (sides n)) {x : Nat} (hx : x < n) : pts n V x + pts n (V.map List.reverse) x = ((n : Int) - 1) * V.length := by
  induction V with
  | nil => simp [pts]
  | cons p V ih =>
    have hp := hV p (List.mem_cons_self ..)
    have ih := ih fun q hq => hV q (List.mem_cons_of_mem _ hq)
    simp only [List.map_cons, pts, List.length_cons]
    rw [pos_rev2 hp hx]
    have e : ((n : Int) - 1) * ((V.length + 1 : Nat) : Int) = ((n : Int) - 1) * (V.length : Int) + ((n : Int) - 1) := by
      push_cast
      rw [Int.mul_add, Int.mul_one]
    omega
theorem pts_bd {n : Nat} {V : List (List Int)} (hV : ∀ p ∈ V, p.Perm (sides n)) {x : Nat} (hx : x < n) (h30 : V.length ≤ 30) (h6 : n ≤ 6) : 0 ≤ pts n V x ∧ pts n V x ≤ 180 := by
  have h := sum_duels hV hx
  have hb := tot_le_sides n (fun y => cnt V x y) 30 (fun y => by have := cnt_le V x y; omega)
  omega
end Fm

/-
  The plain mathematics of the orders that the laws make of any numbers: lists of ints alone, no Go text.
-/
import Derived.Test.YtbpenheomiejfaaOrdSpec
namespace Fm
set_option linter.unusedVariables false

theorem tmod_neg {n m : Int} (hm : 0 < m) (h : n.tmod m < 0) : n.tmod m + m = n % m := by
  have h1 : n = m * n.tdiv m + n.tmod m := (Int.mul_tdiv_add_tmod n m).symm
  have h2 : -m < n.tmod m := by
    have h3 := Int.natAbs_tmod n m
    have h4 : n.natAbs % m.natAbs < m.natAbs := Nat.mod_lt _ (by omega)
    omega
  have h5 : n % m = (n.tmod m + m) % m := by
    rw [Int.add_emod_right]
    exact (congrArg (fun z => z % m) h1).trans (by rw [Int.add_comm, Int.add_mul_emod_self_left])
  rw [h5, Int.emod_eq_of_lt (by omega) (by omega)]
theorem tmod_pos {n m : Int} (hm : 0 < m) (h : ¬ n.tmod m < 0) : n.tmod m = n % m := by
  have h1 : n = m * n.tdiv m + n.tmod m := (Int.mul_tdiv_add_tmod n m).symm
  have h2 : n.tmod m < m := by
    have h3 := Int.natAbs_tmod n m
    have h4 : n.natAbs % m.natAbs < m.natAbs := Nat.mod_lt _ (by omega)
    omega
  have h5 : n % m = (n.tmod m) % m := (congrArg (fun z => z % m) h1).trans (by rw [Int.add_comm, Int.add_mul_emod_self_left])
  rw [h5, Int.emod_eq_of_lt (by omega) h2]
theorem tmod_lo (n : Int) {m : Int} (hm : 0 < m) : -m < n.tmod m ∧ n.tmod m < m := by
  have h3 := Int.natAbs_tmod n m
  have h4 : n.natAbs % m.natAbs < m.natAbs := Nat.mod_lt _ (by omega)
  omega

/-- 0, 1, 2 .. below n. -/
def sides (n : Nat) : List Int := (List.range n).map fun (i : Nat) => (i : Int)
theorem sides_succ (n : Nat) : sides (n + 1) = sides n ++ [(n : Int)] := by simp [sides, List.range_succ]
theorem sides_len (n : Nat) : (sides n).length = n := by simp [sides]
theorem mem_sides {n : Nat} {x : Int} : x ∈ sides n ↔ 0 ≤ x ∧ x < n := by
  simp only [sides, List.mem_map, List.mem_range]
  constructor
  · rintro ⟨i, hi, rfl⟩; omega
  · rintro ⟨h0, h1⟩; exact ⟨x.toNat, by omega, by omega⟩
theorem sides_nodup (n : Nat) : (sides n).Nodup := by
  induction n with
  | zero => simp [sides]
  | succ n ih =>
    rw [sides_succ, List.nodup_append]
    refine ⟨ih, by simp, fun a ha b hb => ?_⟩
    simp at hb
    have := (mem_sides.1 ha).2
    omega

/-- Which of those that are left is taken. -/
def pickK (l left : List Int) (i : Nat) : Nat := if i < l.length then ((l.getD i 0) % (left.length : Int)).toNat else 0
def ordTo (n : Nat) (l : List Int) : Nat → List Int × List Int
  | 0 => ([], sides n)
  | i + 1 => ((ordTo n l i).1 ++ [(ordTo n l i).2.getD (pickK l (ordTo n l i).2 i) 0], (ordTo n l i).2.eraseIdx (pickK l (ordTo n l i).2 i))
def ordOf (n : Nat) (l : List Int) : List Int := (ordTo n l n).1

theorem pickK_lt {l left : List Int} {i : Nat} (h : 0 < left.length) : pickK l left i < left.length := by
  unfold pickK
  split
  · have := Int.emod_nonneg (l.getD i 0) (show (left.length : Int) ≠ 0 by omega)
    have := Int.emod_lt_of_pos (l.getD i 0) (show (0 : Int) < left.length by omega)
    omega
  · exact h
theorem ordTo_len2 (n : Nat) (l : List Int) (i : Nat) (h : i ≤ n) : (ordTo n l i).2.length = n - i := by
  induction i with
  | zero => simp [ordTo, sides_len]
  | succ i ih =>
    have ih := ih (by omega)
    have := pickK_lt (l := l) (i := i) (left := (ordTo n l i).2) (by omega)
    simp only [ordTo]
    rw [List.length_eraseIdx, if_pos this]
    omega
theorem ordTo_len1 (n : Nat) (l : List Int) (i : Nat) : (ordTo n l i).1.length = i := by
  induction i with
  | zero => rfl
  | succ i ih => simp [ordTo, ih]
theorem eraseIdx_perm (t : List Int) (k : Nat) (h : k < t.length) : (t.getD k 0 :: t.eraseIdx k).Perm t := by
  rw [List.getD_eq_getElem?_getD, List.getElem?_eq_getElem h, List.eraseIdx_eq_take_drop_succ]
  have e : t = t.take k ++ t[k] :: t.drop (k + 1) := by rw [← List.drop_eq_getElem_cons h, List.take_append_drop]
  have p : (t[k] :: (t.take k ++ t.drop (k + 1))).Perm (t.take k ++ t[k] :: t.drop (k + 1)) := List.perm_middle.symm
  rw [← e] at p
  exact p
theorem ordTo_perm (n : Nat) (l : List Int) (i : Nat) (h : i ≤ n) : ((ordTo n l i).1 ++ (ordTo n l i).2).Perm (sides n) := by
  induction i with
  | zero => simp [ordTo]
  | succ i ih =>
    have h2 := ordTo_len2 n l i (by omega)
    have hk := pickK_lt (l := l) (i := i) (left := (ordTo n l i).2) (by omega)
    refine List.Perm.trans ?_ (ih (by omega))
    simp only [ordTo, List.append_assoc, List.singleton_append]
    exact List.Perm.append_left _ (eraseIdx_perm _ _ hk)
theorem ordOf_perm (n : Nat) (l : List Int) : (ordOf n l).Perm (sides n) := by
  have h := ordTo_perm n l n (Nat.le_refl _)
  have h2 : (ordTo n l n).2 = [] := List.eq_nil_of_length_eq_zero (by rw [ordTo_len2 n l n (Nat.le_refl _)]; omega)
  rw [h2, List.append_nil] at h
  exact h
theorem ordOf_len (n : Nat) (l : List Int) : (ordOf n l).length = n := ordTo_len1 n l n
theorem isOrd_of_perm {n : Nat} {l : List Int} (h : l.Perm (sides n)) : isOrd n l :=
  ⟨fun x hx => mem_sides.1 (h.mem_iff.1 hx), h.nodup_iff.2 (sides_nodup n)⟩
theorem chk_perm {n : Nat} {l : List Int} (h : l.Perm (sides n)) (h1 : 1 ≤ n) (h6 : n ≤ 6) : chk n l = 0 :=
  chk_ok (by omega) (by have := h.length_eq; rw [sides_len] at this; omega) (isOrd_of_perm h)
/-- The votes that the laws make of any lists. -/
def votesOf (n : Nat) (L : List (List Int)) : List (List Int) := (L.take 30).map (ordOf n)
theorem votesOf_len (n : Nat) (L : List (List Int)) : (votesOf n L).length = min L.length 30 := by simp [votesOf, Nat.min_comm]
theorem votesOf_mem {n : Nat} {L : List (List Int)} {p : List Int} (h : p ∈ votesOf n L) : p.Perm (sides n) := by
  unfold votesOf at h
  rw [List.mem_map] at h
  obtain ⟨l, _, rfl⟩ := h
  exact ordOf_perm n l
end Fm

/-
  Sums over the sides: a side's points are its duels' sum, two sides share the votes, each vote has one first.
-/
import Derived.Test.YtbpenheomiejfaaBeatMath
namespace Fm
set_option linter.unusedVariables false

theorem tot_map (S : List Int) (f : Int → Int) (φ : Int → Nat) : tot (S.map f) φ = tot S (fun x => φ (f x)) := by
  unfold tot; rw [List.map_map]; rfl
theorem tot_succ (n : Nat) (φ : Int → Nat) : tot (sides (n + 1)) φ = tot (sides n) φ + φ n := by
  rw [sides_succ, tot_append, tot_cons, tot_nil]; omega
theorem tot_sides0 (φ : Int → Nat) : tot (sides 0) φ = 0 := rfl
theorem map_pos {n : Nat} {p : List Int} (hp : p.Perm (sides n)) : p.map (pos p) = sides n := by
  have hl := hp.length_eq
  rw [sides_len] at hl
  refine eq_sides (by rw [List.length_map]; exact hl) (fun j hj => ?_)
  have hj' : j < p.length := by omega
  rw [getD_get (by rw [List.length_map]; exact hj'), List.getElem_map, ← getD_get hj']
  exact pos_idx (hp.nodup_iff.2 (sides_nodup n)) hj'
theorem tot_pos {n : Nat} {p : List Int} (hp : p.Perm (sides n)) (φ : Int → Nat) : tot (sides n) (fun y => φ (pos p y)) = tot (sides n) φ := by
  rw [← tot_perm hp, ← tot_map, map_pos hp]
theorem tot_above (a : Nat) (n : Nat) : tot (sides n) (fun k => if (a : Int) < k then 1 else 0) = n - (a + 1) := by
  induction n with
  | zero => simp [tot_sides0]
  | succ n ih =>
    rw [tot_succ, ih]
    by_cases h : a < n
    · rw [if_pos (by omega)]; omega
    · rw [if_neg (by omega)]; omega
theorem tot_first (n : Nat) : tot (sides n) (fun k => if k = 0 then 1 else 0) = if 0 < n then 1 else 0 := by
  induction n with
  | zero => simp [tot_sides0]
  | succ n ih =>
    rw [tot_succ, ih]
    by_cases h : 0 < n
    · rw [if_pos h, if_neg (by omega), if_pos (by omega)]
    · rw [if_neg h, if_pos (by omega), if_pos (by omega)]
theorem sum_duels {n : Nat} {V : List (List Int)} (hV : ∀ p ∈ V, p.Perm (sides n)) {x : Nat} (hx : x < n) : ((tot (sides n) fun y => cnt V x y : Nat) : Int) = pts n V x := by
  induction V with
  | nil => simp [cnt, pts, tot_zero.2]
  | cons p V ih =>
    have hp := hV p (List.mem_cons_self ..)
    have ih := ih fun q hq => hV q (List.mem_cons_of_mem _ hq)
    have e : (fun y => cnt (p :: V) x y) = fun y => (if pos p x < pos p y then 1 else 0) + cnt V x y := by
      funext y
      unfold cnt
      rw [List.countP_cons]
      by_cases h : pos p x < pos p y <;> simp [h] <;> omega
    obtain ⟨b1, b2⟩ := pos_range hp hx
    obtain ⟨a, ha⟩ : ∃ a : Nat, pos p x = a := ⟨(pos p x).toNat, by omega⟩
    rw [e, tot_add, tot_pos hp (fun k => if pos p x < k then 1 else 0), ha, tot_above]
    show _ = ((n : Int) - 1 - pos p x) + pts n V x
    rw [ha] at b2 ⊢
    have ih' : ((tot (sides n) (cnt V x) : Nat) : Int) = pts n V x := ih
    omega
theorem sum_firsts {n : Nat} (h1 : 0 < n) {V : List (List Int)} (hV : ∀ p ∈ V, p.Perm (sides n)) : tot (sides n) (fun x => fst1 V x) = V.length := by
  induction V with
  | nil => simp [fst1, tot_zero.2]
  | cons p V ih =>
    have hp := hV p (List.mem_cons_self ..)
    have ih := ih fun q hq => hV q (List.mem_cons_of_mem _ hq)
    have e : (fun x => fst1 (p :: V) x) = fun y => (if pos p y = 0 then 1 else 0) + fst1 V y := by
      funext y
      unfold fst1
      rw [List.countP_cons]
      by_cases h : pos p y = 0 <;> simp [h] <;> omega
    rw [e, tot_add, tot_pos hp (fun k => if k = 0 then 1 else 0), tot_first, if_pos h1, ih, List.length_cons]
    omega
theorem duel_both {n : Nat} {V : List (List Int)} (hV : ∀ p ∈ V, p.Perm (sides n)) {x y : Nat} (hx : x < n) (hy : y < n) (hne : x ≠ y) : cnt V x y + cnt V y x = V.length := by
  induction V with
  | nil => rfl
  | cons p V ih =>
    have hp := hV p (List.mem_cons_self ..)
    have ih := ih fun q hq => hV q (List.mem_cons_of_mem _ hq)
    have hn : pos p x ≠ pos p y := fun h => by
      have := pos_inj (hp.nodup_iff.2 (sides_nodup n)) (hp.mem_iff.2 (mem_sides.2 ⟨by omega, by omega⟩)) (hp.mem_iff.2 (mem_sides.2 ⟨by omega, by omega⟩)) h
      omega
    unfold cnt at ih ⊢
    rw [List.countP_cons, List.countP_cons, List.length_cons, ← ih]
    by_cases h : pos p x < pos p y
    · have h2 : ¬ pos p y < pos p x := by omega
      simp [h, h2]; omega
    · have h2 : pos p y < pos p x := by omega
      simp [h, h2]; omega
theorem tot_le_sides (n : Nat) (φ : Int → Nat) (b : Nat) (h : ∀ x, φ x ≤ b) : tot (sides n) φ ≤ n * b := by
  induction n with
  | zero => simp [tot_sides0]
  | succ n ih => rw [tot_succ, Nat.succ_mul]; have := h n; omega
end Fm

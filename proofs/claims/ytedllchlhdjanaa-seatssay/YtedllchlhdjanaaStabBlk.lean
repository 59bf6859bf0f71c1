/-
  The blocks of a stable sort from below: numbers alone, no Go text.
-/
import Derived.Test.YtedllchlhdjanaaStabMath
namespace Fm
set_option linter.unusedVariables false
section
variable {lt : Nat → Nat → Prop} {a n s : Nat} {d d' : Nat → Nat}
/-- The row in sorted blocks of s. -/
def Blk (lt : Nat → Nat → Prop) (s n : Nat) (d : Nat → Nat) : Prop := ∀ u, u * s < n → Seg lt (u * s) (min (u * s + s) n) d
/-- Blocks of twice the size up to a, blocks of s from there on. -/
def Half (lt : Nat → Nat → Prop) (s n a : Nat) (d : Nat → Nat) : Prop :=
  ∃ t, a = t * (2 * s) ∧ (∀ u, u < t → Seg lt (u * (2 * s)) (u * (2 * s) + 2 * s) d) ∧ ∀ u, 2 * t ≤ u → u * s < n → Seg lt (u * s) (min (u * s + s) n) d
/-- Blocks of 20 up to a, the places themselves from there on. -/
def First (lt : Nat → Nat → Prop) (a : Nat) (d : Nat → Nat) : Prop := ∃ t, a = t * 20 ∧ (∀ u, u < t → Seg lt (u * 20) (u * 20 + 20) d) ∧ ∀ k, a ≤ k → d k = k
theorem Seg.at_ {x y x' y' : Nat} (h : Seg lt x y d) (e1 : x = x') (e2 : y = y') : Seg lt x' y' d := by subst e1; subst e2; exact h
theorem step_le {u t s : Nat} (h : u < t) : u * s + s ≤ t * s := by
  have := Nat.mul_le_mul_right s (show u + 1 ≤ t from h)
  rwa [Nat.add_mul, Nat.one_mul] at this
theorem two_mul_ (t s : Nat) : 2 * t * s = t * (2 * s) := by rw [Nat.mul_comm 2 t, Nat.mul_assoc]
theorem half_start (h : Blk lt s n d) : Half lt s n 0 d := ⟨0, by simp, fun u hu => by omega, fun u _ hu => h u hu⟩
theorem half_parts (h : Half lt s n a d) (hs : 0 < s) (ha : a + 2 * s ≤ n) : Seg lt a (a + s) d ∧ Seg lt (a + s) (a + 2 * s) d := by
  obtain ⟨t, rfl, _, h2⟩ := h
  have e := two_mul_ t s
  have e2 : (2 * t + 1) * s = t * (2 * s) + s := by rw [Nat.add_mul, Nat.one_mul, e]
  exact ⟨(h2 (2 * t) (Nat.le_refl _) (by omega)).at_ e (by omega), (h2 (2 * t + 1) (by omega) (by omega)).at_ e2 (by omega)⟩
theorem half_next (h : Half lt s n a d) (hs : 0 < s) (ha : a + 2 * s ≤ n) (hm : Mix a (a + 2 * s) d d') (hr : Srt lt a (a + 2 * s) d') : Half lt s n (a + 2 * s) d' := by
  obtain ⟨p1, p2⟩ := half_parts h hs ha
  obtain ⟨t, rfl, h1, h2⟩ := h
  refine ⟨t + 1, by rw [Nat.add_mul, Nat.one_mul], fun u hu => ?_, fun u hu hn => ?_⟩
  · by_cases e : u = t
    · subst e
      exact p1.join p2 (by omega) (by omega) hm hr
    · have := step_le (s := 2 * s) (show u < t by omega)
      exact (h1 u (by omega)).out_ hm (.inl (by omega))
  · have := step_le (s := s) (show 2 * t + 1 < u by omega)
    have e2 : (2 * t + 1) * s = t * (2 * s) + s := by rw [Nat.add_mul, Nat.one_mul, two_mul_]
    exact (h2 u (by omega) hn).out_ hm (.inr (by omega))
theorem half_all (h : Half lt s n a d) (ha : a ≤ n) (hn : n < a + 2 * s) (hs : a < n → Seg lt a n d') (hm : Mix a n d d') : Blk lt (2 * s) n d' := by
  obtain ⟨t, rfl, h1, h2⟩ := h
  intro u hu
  by_cases c1 : u < t
  · have := step_le (s := 2 * s) c1
    exact ((h1 u c1).out_ hm (.inl (by omega))).at_ rfl (by omega)
  · by_cases c2 : u = t
    · subst c2
      exact (hs hu).at_ rfl (by omega)
    · have := step_le (s := 2 * s) (show t < u by omega)
      omega
theorem half_two (h : Half lt s n a d) (ha : a + s < n) (hn : n < a + 2 * s) : Seg lt a (a + s) d ∧ Seg lt (a + s) n d := by
  obtain ⟨t, rfl, _, h2⟩ := h
  have e := two_mul_ t s
  have e2 : (2 * t + 1) * s = t * (2 * s) + s := by rw [Nat.add_mul, Nat.one_mul, e]
  exact ⟨(h2 (2 * t) (Nat.le_refl _) (by omega)).at_ e (by omega), (h2 (2 * t + 1) (by omega) (by omega)).at_ e2 (by omega)⟩
theorem half_end1 (h : Half lt s n a d) (ha : a + s < n) (hn : n < a + 2 * s) (hm : Mix a n d d') (hr : Srt lt a n d') : Blk lt (2 * s) n d' := by
  obtain ⟨p1, p2⟩ := half_two h ha hn
  exact half_all h (by omega) hn (fun _ => p1.join p2 (by omega) (by omega) hm hr) hm
theorem half_end2 (h : Half lt s n a d) (hs : 0 < s) (ha : a ≤ n) (hn : n ≤ a + s) : Blk lt (2 * s) n d := by
  refine half_all h ha (by omega) (fun hlt => ?_) (Mix.refl _ _ _)
  obtain ⟨t, rfl, _, h2⟩ := h
  have e := two_mul_ t s
  exact (h2 (2 * t) (Nat.le_refl _) (by omega)).at_ e (by omega)
theorem blk_all (h : Blk lt s n d) (hs : n ≤ s) (hn : 0 < n) : Seg lt 0 n d := (h 0 (by omega)).at_ (by omega) (by omega)
theorem first_start : First lt 0 id := ⟨0, rfl, fun u hu => by omega, fun k _ => rfl⟩
theorem First.inc (h : First lt a d) : ∀ x y, a ≤ x → x < y → d x < d y := fun x y h1 h2 => by
  obtain ⟨t, _, _, h3⟩ := h
  rw [h3 x h1, h3 y (by omega)]; exact h2
theorem first_next (h : First lt a d) (hm : Mix a (a + 20) d d') (hr : Srt lt a (a + 20) d') : First lt (a + 20) d' := by
  obtain ⟨t, rfl, h1, h2⟩ := h
  refine ⟨t + 1, by omega, fun u hu => ?_, fun k hk => ?_⟩
  · by_cases e : u = t
    · subst e
      exact Seg.of_mix (fun k q _ => h2 k q) hm hr
    · exact (h1 u (by omega)).out_ hm (.inl (by omega))
  · rw [hm.out k (by omega)]; exact h2 k (by omega)
theorem first_end (h : First lt a d) (ha : a ≤ n) (hn : n < a + 20) (hm : Mix a n d d') (hr : Srt lt a n d') : Blk lt 20 n d' := by
  obtain ⟨t, rfl, h1, h2⟩ := h
  intro u hu
  by_cases c1 : u < t
  · exact ((h1 u c1).out_ hm (.inl (by omega))).at_ rfl (by omega)
  · have : u = t := by omega
    subst this
    exact (Seg.of_mix (fun k q _ => h2 k q) hm hr).at_ rfl (by omega)
end
end Fm

/-
  The first of a stably sorted row of quotients are those that get the seats one by one: numbers alone, no Go text.
-/
import Derived.Test.YtedllchlhdjanaaPartSeat
import Derived.Test.YtedllchlhdjanaaStabMath
namespace Fm
set_option linter.unusedVariables false

/-- e's quotient is greater than f's. -/
def gtQ (p b : Nat → Nat) (e f : Nat) : Prop := p f * b e < p e * b f
/-- e comes before f: a greater quotient, or no smaller one and laid first. -/
def ltQ (p b : Nat → Nat) (e f : Nat) : Prop := gtQ p b e f ∨ (¬ gtQ p b f e ∧ e < f)
theorem ltQ_sto {p b : Nat → Nat} (hb : ∀ e, 0 < b e) : STO (ltQ p b) := by
  have tr1 : ∀ e f g, gtQ p b e f → ¬ gtQ p b g f → gtQ p b e g := fun e f g h1 h2 => by
    have h3 : flt (p f) (b f) (p e) (b e) := h1
    have h4 : ¬ flt (p f) (b f) (p g) (b g) := h2
    have := flt_trans2 (a := p g) (b := b g) (c := p f) (d := b f) (e := p e) (f := b e) (hb g) (hb f) h4 h3
    exact this
  have tr2 : ∀ e f g, ¬ gtQ p b f e → gtQ p b f g → gtQ p b e g := fun e f g h1 h2 => by
    have h3 : flt (p g) (b g) (p f) (b f) := h2
    have h4 : ¬ flt (p e) (b e) (p f) (b f) := h1
    exact flt_trans (a := p g) (b := b g) (c := p f) (d := b f) (e := p e) (f := b e) (hb f) (hb e) h3 h4
  have asy : ∀ e f, gtQ p b e f → ¬ gtQ p b f e := fun e f h1 h2 => by unfold gtQ at h1 h2; omega
  have tr3 : ∀ e f g, ¬ gtQ p b f e → ¬ gtQ p b g f → ¬ gtQ p b g e := fun e f g h1 h2 h3 => h2 (tr1 g e f h3 h1)
  refine ⟨fun e f h1 h2 => ?_, fun e f g h1 h2 => ?_, fun e f hne => ?_⟩
  · rcases h1 with h1 | ⟨h1, h1'⟩ <;> rcases h2 with h2 | ⟨h2, h2'⟩
    · exact asy e f h1 h2
    · exact h2 h1
    · exact h1 h2
    · omega
  · rcases h1 with h1 | ⟨h1, h1'⟩ <;> rcases h2 with h2 | ⟨h2, h2'⟩
    · exact .inl (tr1 e f g h1 (asy f g h2))
    · exact .inl (tr1 e f g h1 h2)
    · exact .inl (tr2 e f g h1 h2)
    · exact .inr ⟨tr3 e f g h1 h2, by omega⟩
  · by_cases q1 : gtQ p b e f
    · exact .inl (.inl q1)
    · by_cases q2 : gtQ p b f e
      · exact .inr (.inl q2)
      · by_cases q3 : e < f
        · exact .inl (.inr ⟨q2, q3⟩)
        · exact .inr (.inr ⟨q1, by omega⟩)

/-- The parts by divisors: party e / h, its divisor number e % h. -/
def pD (x : Nat → Nat) (h e : Nat) : Nat := x (e / h)
def bD (w h e : Nat) : Nat := w * (e % h) + 1
section
variable {w n h : Nat} {x s : Nat → Nat}
theorem at_div {i j : Nat} (hj : j < h) : (i * h + j) / h = i ∧ (i * h + j) % h = j := by
  have h0 : 0 < h := by omega
  constructor
  · rw [Nat.mul_comm, Nat.mul_add_div h0, Nat.div_eq_of_lt hj, Nat.add_zero]
  · rw [Nat.mul_comm, Nat.mul_add_mod, Nat.mod_eq_of_lt hj]
theorem div_at {e : Nat} : e = e / h * h + e % h := by rw [Nat.mul_comm]; exact (Nat.div_add_mod e h).symm
/-- Who gets the next seat. -/
def nextD (w n : Nat) (x : Nat → Nat) (t : Nat) : Nat := pickTo x (fun i => w * seatT w n x t i + 1) (n - 1)
theorem nextD_lt (hn : 1 ≤ n) (t : Nat) : nextD w n x t < n := (seatT_pick hn t).1
theorem seatT_nextD (t : Nat) : seatT w n x (t + 1) = up1 (seatT w n x t) (nextD w n x t) := rfl
theorem sortD (hn : 1 ≤ n) (hs : Seg (ltQ (pD x h) (bD w h)) 0 (n * h) s) : ∀ t, t ≤ h → (∀ e, e < n * h → ((∃ u, u < t ∧ s u = e) ↔ e % h < seatT w n x t (e / h))) ∧ ∀ u, u < t → s u / h = nextD w n x u := by
  intro t
  induction t with
  | zero => exact fun _ => ⟨fun e he => ⟨fun ⟨u, hu, _⟩ => by omega, fun q => by rw [seatT] at q; dsimp only at q; omega⟩, fun u hu => by omega⟩
  | succ t ih =>
    intro ht
    obtain ⟨i1, i2⟩ := ih (by omega)
    obtain ⟨p1, p2, p3⟩ := seatT_pick (w := w) (x := x) hn t
    have hb : nextD w n x t < n := p1
    have hsum := seatT_sum (w := w) (x := x) hn t
    have hle : ∀ i, i < n → seatT w n x t i < h := fun i hi => by
      have := sN_mem (f := seatT w n x t) hi
      omega
    have hlt := hle _ hb
    have h0 : 0 < h := by omega
    obtain ⟨d1, d2⟩ := at_div (i := nextD w n x t) hlt
    have hbn : nextD w n x t * h + seatT w n x t (nextD w n x t) < n * h := by
      have := Nat.mul_le_mul_right h (show nextD w n x t + 1 ≤ n from hb)
      rw [Nat.add_mul, Nat.one_mul] at this
      omega
    have hth : t < n * h := Nat.lt_of_lt_of_le ht (Nat.le_mul_of_pos_left h hn)
    have key : s t = nextD w n x t * h + seatT w n x t (nextD w n x t) := by
      refine hs.next (ltQ_sto (fun e => by unfold bD; omega)) hth hbn (fun u hu he => ?_) (fun f hf hfree hne => ?_)
      · have := (i1 _ hbn).1 ⟨u, hu, he⟩
        rw [d1, d2] at this
        omega
      · have hfi : f / h < n := by rw [Nat.div_lt_iff_lt_mul h0]; exact hf
        have hfj : seatT w n x t (f / h) ≤ f % h := by
          by_cases q : f % h < seatT w n x t (f / h)
          · obtain ⟨u, hu, he⟩ := (i1 f hf).2 q
            exact absurd he (hfree u hu)
          · omega
        have q2 := p2 _ hfi
        have q3 := p3 (f / h)
        have hmono : w * seatT w n x t (f / h) + 1 ≤ w * (f % h) + 1 := by
          have := Nat.mul_le_mul_left w hfj
          omega
        unfold nextD at *
        unfold ltQ gtQ pD bD
        rw [d1, d2]
        unfold flt at q2 q3
        dsimp only at q2 q3
        have hx : x (f / h) * (w * seatT w n x t (pickTo x (fun i => w * seatT w n x t i + 1) (n - 1)) + 1) ≤ x (pickTo x (fun i => w * seatT w n x t i + 1) (n - 1)) * (w * seatT w n x t (f / h) + 1) := by omega
        have hy : x (pickTo x (fun i => w * seatT w n x t i + 1) (n - 1)) * (w * seatT w n x t (f / h) + 1) ≤ x (pickTo x (fun i => w * seatT w n x t i + 1) (n - 1)) * (w * (f % h) + 1) := Nat.mul_le_mul_left _ hmono
        by_cases c : x (f / h) * (w * seatT w n x t (pickTo x (fun i => w * seatT w n x t i + 1) (n - 1)) + 1) < x (pickTo x (fun i => w * seatT w n x t i + 1) (n - 1)) * (w * (f % h) + 1)
        · exact .inl c
        · refine .inr ⟨by omega, ?_⟩
          -- f is not laid before
          by_cases c2 : f / h < pickTo x (fun i => w * seatT w n x t i + 1) (n - 1)
          · have := q3 c2
            omega
          · have e := div_at (h := h) (e := f)
            by_cases c3 : f / h = pickTo x (fun i => w * seatT w n x t i + 1) (n - 1)
            · rw [c3] at hfj e
              omega
            · have := Nat.mul_le_mul_right h (show pickTo x (fun i => w * seatT w n x t i + 1) (n - 1) + 1 ≤ f / h by omega)
              rw [Nat.add_mul, Nat.one_mul] at this
              omega
    refine ⟨fun e he => ?_, fun u hu => ?_⟩
    · rw [seatT_nextD]
      unfold up1
      constructor
      · rintro ⟨u, hu, hue⟩
        by_cases q : u = t
        · subst q
          rw [key] at hue
          rw [← hue, d1, d2, if_pos rfl]
          omega
        · have := (i1 e he).1 ⟨u, by omega, hue⟩
          split <;> omega
      · intro q
        by_cases c : e % h < seatT w n x t (e / h)
        · obtain ⟨u, hu, hue⟩ := (i1 e he).2 c
          exact ⟨u, by omega, hue⟩
        · by_cases c2 : e / h = nextD w n x t
          · rw [if_pos c2] at q
            refine ⟨t, by omega, ?_⟩
            rw [key, ← c2]
            have e1 := div_at (h := h) (e := e)
            omega
          · rw [if_neg c2] at q
            exact absurd q c
    · by_cases q : u = t
      · subst q
        rw [key, d1]
      · exact i2 u (by omega)
end

section
variable {n : Nat} {r s : Nat → Nat}
def nextP (n : Nat) (r : Nat → Nat) (m : Nat) : Nat := pickTo (remX r (partT n r m)) (fun _ => 1) (n - 1)
theorem partT_nextP (m : Nat) : partT n r (m + 1) = setB (partT n r m) (nextP n r m) := rfl
theorem sortP (hn : 1 ≤ n) (hs : Seg (ltQ r (fun _ => 1)) 0 n s) : ∀ m, m ≤ n → (∀ e, e < n → ((∃ u, u < m ∧ s u = e) ↔ partT n r m e = true)) ∧ ∀ u, u < m → s u = nextP n r u := by
  intro m
  induction m with
  | zero => exact fun _ => ⟨fun e he => ⟨fun ⟨u, hu, _⟩ => by omega, fun q => by rw [partT] at q; cases q⟩, fun u hu => by omega⟩
  | succ m ih =>
    intro hm
    obtain ⟨i1, i2⟩ := ih (by omega)
    obtain ⟨p1, p2, p3⟩ := partT_pick (r := r) hn m
    have hfr := partT_free (r := r) hn (m := m) (by rw [partT_count hn m (by omega)]; omega)
    have hb : nextP n r m < n := p1
    have hfr' : partT n r m (nextP n r m) = false := hfr
    have key : s m = nextP n r m := by
      refine hs.next (ltQ_sto (fun e => by omega)) (by omega) hb (fun u hu he => ?_) (fun f hf hfree hne => ?_)
      · have := (i1 _ hb).1 ⟨u, hu, he⟩
        rw [hfr'] at this
        cases this
      · have hff : partT n r m f = false := by
          cases q : partT n r m f with
          | false => rfl
          | true =>
            obtain ⟨u, hu, he⟩ := (i1 f hf).2 q
            exact absurd he (hfree u hu)
        have q2 : ¬ flt (remX r (partT n r m) (nextP n r m)) 1 (remX r (partT n r m) f) 1 := p2 f hf
        have q3 : f < nextP n r m → flt (remX r (partT n r m) f) 1 (remX r (partT n r m) (nextP n r m)) 1 := p3 f
        clear p1 p2 p3 hfr i1 i2 ih
        generalize nextP n r m = b at *
        unfold flt remX at q2 q3
        rw [hfr', hff] at q2 q3
        simp at q2 q3
        unfold ltQ gtQ
        simp only [Nat.mul_one]
        by_cases c : r f < r b
        · exact .inl c
        · refine .inr ⟨by omega, ?_⟩
          by_cases c2 : f < b
          · have := q3 c2
            omega
          · omega
    refine ⟨fun e he => ?_, fun u hu => ?_⟩
    · rw [partT_nextP]
      unfold setB
      constructor
      · rintro ⟨u, hu, hue⟩
        by_cases q : u = m
        · subst q
          rw [key] at hue
          rw [if_pos hue.symm]
        · have := (i1 e he).1 ⟨u, by omega, hue⟩
          rw [this]; split <;> rfl
      · intro q
        by_cases c2 : e = nextP n r m
        · exact ⟨m, by omega, by rw [key, c2]⟩
        · rw [if_neg c2] at q
          obtain ⟨u, hu, hue⟩ := (i1 e he).2 q
          exact ⟨u, by omega, hue⟩
    · by_cases q : u = m
      · subst q; exact key
      · exact i2 u (by omega)
end
end Fm

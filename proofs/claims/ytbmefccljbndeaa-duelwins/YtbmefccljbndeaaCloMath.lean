/-
  The smallest set that holds one alternative and of which each beats all others, found member by member: no Go text.
-/
import Derived.Test.YtbmefccljbndeaaDWinMath
import Derived.Test.YtbmefccljbndeaaWinSetMath
namespace Fm
set_option linter.unusedVariables false

/-- Each of Q beats each one outside of it. -/
def Closed (n : Nat) (M : List (List Int)) (Q : Nat → Bool) : Prop := ∀ x y, x < n → y < n → Q x = true → Q y = false → btB M x y = true
def LeastOf (n : Nat) (M : List (List Int)) (f : Nat) (P : Nat → Bool) : Prop := ∀ Q : Nat → Bool, Q f = true → Closed n M Q → ∀ x, x < n → P x = true → Q x = true
def Clo (n : Nat) (M : List (List Int)) (f : Nat) (P : Nat → Bool) : Prop := P f = true ∧ Closed n M P ∧ LeastOf n M f P
def upd (P : Nat → Bool) (j : Nat) : Nat → Bool := fun z => if z = j then true else P z
theorem upd_true {P : Nat → Bool} {j z : Nat} (h : P z = true) : upd P j z = true := by unfold upd; split <;> simp [h]
theorem upd_false {P : Nat → Bool} {j z : Nat} (h : upd P j z = false) : P z = false ∧ z ≠ j := by
  unfold upd at h
  by_cases e : z = j
  · rw [if_pos e] at h; cases h
  · rw [if_neg e] at h; exact ⟨h, e⟩
def cntB (n : Nat) (P : Nat → Bool) : Nat := ((List.range n).filter P).length
theorem cntB_le (n : Nat) (P : Nat → Bool) : cntB n P ≤ n := by unfold cntB; exact Nat.le_trans (List.length_filter_le _ _) (by simp)
theorem cntB_upd {n : Nat} {P : Nat → Bool} {j : Nat} (hj : j < n) (h : P j = false) : cntB n (upd P j) = cntB n P + 1 := by
  unfold cntB
  induction n with
  | zero => omega
  | succ n ih =>
    rw [List.range_succ, List.filter_append, List.filter_append, List.length_append, List.length_append]
    by_cases e : j = n
    · subst e
      have e1 : (List.range j).filter (upd P j) = (List.range j).filter P := by
        apply List.filter_congr
        intro x hx
        have := List.mem_range.1 hx
        unfold upd; rw [if_neg (by omega)]
      rw [e1]
      simp [upd, h]
    · have := ih (by omega)
      have e2 : [n].filter (upd P j) = [n].filter P := by
        apply List.filter_congr
        intro x hx
        have := List.mem_singleton.1 hx
        unfold upd; rw [if_neg (by omega)]
      rw [e2]; omega

/-- What holds between two members: P so far, q still to be looked at. -/
structure QInv (n : Nat) (M : List (List Int)) (f : Nat) (P : Nat → Bool) (q : List Nat) : Prop where
  pf : P f = true
  qn : ∀ x ∈ q, x < n ∧ P x = true
  done : ∀ x, x < n → P x = true → x ∈ q ∨ ∀ y, y < n → P y = false → btB M x y = true
  least : LeastOf n M f P
/-- What holds while x is looked at, behind the first j. -/
structure IInv (n : Nat) (M : List (List Int)) (f x j : Nat) (P : Nat → Bool) (q : List Nat) : Prop where
  pf : P f = true
  xn : x < n
  px : P x = true
  qn : ∀ z ∈ q, z < n ∧ P z = true
  done : ∀ z, z < n → P z = true → z ∈ q ∨ z = x ∨ ∀ y, y < n → P y = false → btB M z y = true
  part : ∀ y, y < j → P y = false → btB M x y = true
  least : LeastOf n M f P
section
variable {n : Nat} {M : List (List Int)} {f x j : Nat} {P : Nat → Bool} {q : List Nat}
theorem qInv_start (hf : f < n) : QInv n M f (upd (fun _ => false) f) [f] where
  pf := by simp [upd]
  qn := fun z hz => by have := List.mem_singleton.1 hz; subst this; exact ⟨hf, by simp [upd]⟩
  done := fun z hz hp => by
    left
    unfold upd at hp
    by_cases e : z = f
    · simp [e]
    · rw [if_neg e] at hp; cases hp
  least := fun Q hq _ z hz hp => by
    unfold upd at hp
    by_cases e : z = f
    · subst e; exact hq
    · rw [if_neg e] at hp; cases hp
theorem QInv.pop (h : QInv n M f P (x :: q)) : IInv n M f x 0 P q where
  pf := h.pf
  xn := (h.qn x (by simp)).1
  px := (h.qn x (by simp)).2
  qn := fun z hz => h.qn z (by simp [hz])
  done := fun z hz hp => by
    rcases h.done z hz hp with h1 | h1
    · rcases List.mem_cons.1 h1 with h2 | h2
      · exact .inr (.inl h2)
      · exact .inl h2
    · exact .inr (.inr h1)
  part := fun y hy => by omega
  least := h.least
theorem IInv.end_ (h : IInv n M f x n P q) : QInv n M f P q where
  pf := h.pf
  qn := h.qn
  done := fun z hz hp => by
    rcases h.done z hz hp with h1 | h1 | h1
    · exact .inl h1
    · subst h1; exact .inr (fun y hy hpy => h.part y hy hpy)
    · exact .inr h1
  least := h.least
theorem IInv.skip (h : IInv n M f x j P q) (hs : P j = true ∨ btB M x j = true) : IInv n M f x (j + 1) P q :=
  ⟨h.pf, h.xn, h.px, h.qn, h.done, fun y hy hp => by
    by_cases e : y = j
    · subst e
      rcases hs with h1 | h1
      · rw [h1] at hp; cases hp
      · exact h1
    · exact h.part y (by omega) hp, h.least⟩
theorem IInv.take (h : IInv n M f x j P q) (hj : j < n) (hp : P j = false) (hb : btB M x j = false) : IInv n M f x (j + 1) (upd P j) (q ++ [j]) where
  pf := upd_true h.pf
  xn := h.xn
  px := upd_true h.px
  qn := fun z hz => by
    rcases List.mem_append.1 hz with h1 | h1
    · exact ⟨(h.qn z h1).1, upd_true (h.qn z h1).2⟩
    · have := List.mem_singleton.1 h1; subst this; exact ⟨hj, by simp [upd]⟩
  done := fun z hz hpz => by
    by_cases e : z = j
    · subst e; exact .inl (by simp)
    · unfold upd at hpz; rw [if_neg e] at hpz
      rcases h.done z hz hpz with h1 | h1 | h1
      · exact .inl (by simp [h1])
      · exact .inr (.inl h1)
      · exact .inr (.inr (fun y hy hpy => h1 y hy (upd_false hpy).1))
  part := fun y hy hpy => by
    obtain ⟨h1, h2⟩ := upd_false hpy
    exact h.part y (by omega) h1
  least := fun Q hq hc z hz hpz => by
    by_cases e : z = j
    · subst e
      have hx := h.least Q hq hc x h.xn h.px
      cases hqz : Q z with
      | true => rfl
      | false => have := hc x z h.xn hz hx hqz; rw [hb] at this; cases this
    · unfold upd at hpz; rw [if_neg e] at hpz
      exact h.least Q hq hc z hz hpz
theorem QInv.clo (h : QInv n M f P []) : Clo n M f P :=
  ⟨h.pf, fun a b ha hb h1 h2 => by
    rcases h.done a ha h1 with h3 | h3
    · cases h3
    · exact h3 b hb h2, h.least⟩
end
/-- The alternatives of P, in increasing order. -/
def listB (P : Nat → Bool) (k : Nat) : List Int := ((List.range k).filter P).map fun (i : Nat) => (i : Int)
theorem listB_zero (P : Nat → Bool) : listB P 0 = [] := rfl
theorem listB_yes {P : Nat → Bool} {k : Nat} (h : P k = true) : listB P (k + 1) = listB P k ++ [(k : Int)] := by
  unfold listB; rw [List.range_succ, List.filter_append, List.map_append]; simp [h]
theorem listB_no {P : Nat → Bool} {k : Nat} (h : P k = false) : listB P (k + 1) = listB P k := by
  unfold listB; rw [List.range_succ, List.filter_append, List.map_append]; simp [h]
theorem listB_len (P : Nat → Bool) (k : Nat) : (listB P k).length ≤ k := by
  unfold listB; rw [List.length_map]; exact Nat.le_trans (List.length_filter_le _ _) (by simp)
theorem clo_top {n : Nat} {M : List (List Int)} {f : Nat} {P : Nat → Bool} (hf : f < n) (h : Clo n M f P) (hmax : ∀ z, z < n → winTo M z n ≤ winTo M f n) : listB P n = topL n M := by
  have hin := best_top hf hmax
  symm
  refine topL_of P ⟨f, hf, h.1⟩ (fun x y hx hy h1 h2 => by have := h.2.1 x y hx hy h1 h2; simpa [btB] using this) (fun Q hne hd x hx hp => ?_)
  refine h.2.2 Q ?_ (fun a b ha hb h1 h2 => by simpa [btB] using hd a b ha hb h1 h2) x hx hp
  unfold topL at hin
  obtain ⟨f', hf', e⟩ := List.mem_map.1 hin
  have : f' = f := by omega
  subst this
  have hit := inTop_iff.1 (List.mem_filter.1 hf').2
  obtain ⟨z, hz, hqz⟩ := hne
  have hb := hit (maskOf Q n) (mask_pos (n := n) (x := z) (by rw [maskOf_bit Q hz]; exact hqz)) (maskOf_lt Q n) (dom_iff.2 (fun a ha b hb h1 h2 => by
    rw [maskOf_bit Q ha] at h1
    rw [maskOf_bit Q hb] at h2
    exact hd a b ha hb h1 h2))
  rwa [maskOf_bit Q hf] at hb
end Fm

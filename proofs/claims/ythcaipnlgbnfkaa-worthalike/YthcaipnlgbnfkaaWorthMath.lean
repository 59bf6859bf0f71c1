/-
  Games given by a number for each set: what each adds in an order of arrival, over all orders, turned about, renamed: numbers and lists alone, no Go text.
-/
import Derived.Test.YthcaipnlgbnfkaaArrMath
namespace Fm
set_option linter.unusedVariables false

/-- A sum over a list. -/
def tI (S : List Int) (φ : Int → Int) : Int := (S.map φ).sum
theorem tI_nil (φ : Int → Int) : tI [] φ = 0 := rfl
theorem tI_cons (x : Int) (S : List Int) (φ : Int → Int) : tI (x :: S) φ = φ x + tI S φ := by simp [tI]
theorem tI_append (S T : List Int) (φ : Int → Int) : tI (S ++ T) φ = tI S φ + tI T φ := by simp [tI, List.sum_append]
theorem sum_permI {l m : List Int} (h : l.Perm m) : l.sum = m.sum := by
  induction h with
  | nil => rfl
  | cons x _ ih => simp [ih]
  | swap x y l => simp; omega
  | trans _ _ h1 h2 => exact h1.trans h2
theorem tI_perm {S T : List Int} (h : S.Perm T) (φ : Int → Int) : tI S φ = tI T φ := sum_permI (h.map φ)
theorem tI_congr {S : List Int} {φ ψ : Int → Int} (h : ∀ x ∈ S, φ x = ψ x) : tI S φ = tI S ψ := by unfold tI; rw [List.map_congr_left h]
theorem tI_add (S : List Int) (φ ψ : Int → Int) : tI S (fun x => φ x + ψ x) = tI S φ + tI S ψ := by
  induction S with
  | nil => rfl
  | cons x S ih => rw [tI_cons, tI_cons, tI_cons, ih]; omega
theorem tI_le {S : List Int} {φ ψ : Int → Int} (h : ∀ x ∈ S, φ x ≤ ψ x) : tI S φ ≤ tI S ψ := by
  induction S with
  | nil => exact Int.le_refl _
  | cons x S ih => rw [tI_cons, tI_cons]; have := h x (by simp); have := ih (fun y hy => h y (by simp [hy])); omega
/-- A sum over a list of orders. -/
def tL (L : List (List Int)) (φ : List Int → Int) : Int := (L.map φ).sum
theorem tL_cons (p : List Int) (L : List (List Int)) (φ : List Int → Int) : tL (p :: L) φ = φ p + tL L φ := by simp [tL]
theorem tL_append (L M : List (List Int)) (φ : List Int → Int) : tL (L ++ M) φ = tL L φ + tL M φ := by simp [tL, List.sum_append]
theorem tL_perm {L M : List (List Int)} (h : L.Perm M) (φ : List Int → Int) : tL L φ = tL M φ := sum_permI (h.map φ)
theorem tL_congr {L : List (List Int)} {φ ψ : List Int → Int} (h : ∀ p ∈ L, φ p = ψ p) : tL L φ = tL L ψ := by unfold tL; rw [List.map_congr_left h]
theorem tL_add (L : List (List Int)) (φ ψ : List Int → Int) : tL L (fun p => φ p + ψ p) = tL L φ + tL L ψ := by
  induction L with
  | nil => rfl
  | cons p L ih => rw [tL_cons, tL_cons, tL_cons, ih]; omega
theorem tL_const (L : List (List Int)) (c : Int) : tL L (fun _ => c) = (L.length : Int) * c := by
  induction L with
  | nil => simp [tL]
  | cons p L ih => rw [tL_cons, ih, List.length_cons, Int.natCast_succ, Int.add_mul, Int.one_mul, Int.add_comm]
theorem tL_le {L : List (List Int)} {φ ψ : List Int → Int} (h : ∀ p ∈ L, φ p ≤ ψ p) : tL L φ ≤ tL L ψ := by
  induction L with
  | nil => exact Int.le_refl _
  | cons p L ih => rw [tL_cons, tL_cons]; have := h p (by simp); have := ih (fun q hq => h q (by simp [hq])); omega
theorem tI_tL (S : List Int) (L : List (List Int)) (φ : List Int → Int → Int) : tI S (fun i => tL L (fun p => φ p i)) = tL L (fun p => tI S (φ p)) := by
  induction S with
  | nil => have := tL_const L 0; simp only [tI_nil]; rw [this]; simp
  | cons x S ih =>
    rw [tI_cons, ih, ← tL_add]
    exact tL_congr (fun p _ => by rw [tI_cons])
theorem tL_bd {L : List (List Int)} {φ : List Int → Int} {B : Int} (h : ∀ p ∈ L, -B ≤ φ p ∧ φ p ≤ B) : -((L.length : Int) * B) ≤ tL L φ ∧ tL L φ ≤ (L.length : Int) * B := by
  have h1 := tL_le (L := L) (φ := fun _ => -B) (ψ := φ) (fun p hp => (h p hp).1)
  have h2 := tL_le (L := L) (φ := φ) (ψ := fun _ => B) (fun p hp => (h p hp).2)
  rw [tL_const] at h1 h2
  rw [Int.mul_neg] at h1
  exact ⟨h1, h2⟩

/-- The set of the first k of p. -/
def b2 (j : Nat) : Nat := 2 ^ j
def pS (p : List Int) (k : Nat) : Nat := tot (p.take k) (wI b2)
/-- What x adds to those that are there before it. -/
def rowG (v : Nat → Int) (n : Nat) (p : List Int) (x : Int) : Int := v (preP b2 n p x + 2 ^ x.toNat) - v (preP b2 n p x)
/-- Over all orders. -/
def shG (v : Nat → Int) (n : Nat) (x : Int) : Int := tL (allO n) (fun p => rowG v n p x)
section
variable {n : Nat} {v : Nat → Int} {p : List Int}
theorem hv_self : ∀ (n S : Nat), hv b2 n S = S % 2 ^ n := by
  intro n
  induction n with
  | zero => intro S; rw [Nat.pow_zero, Nat.mod_one]; rfl
  | succ n ih =>
    intro S
    have h := ih S
    unfold hv at h ⊢
    rw [sN, h, Nat.mod_pow_succ, Nat.testBit_eq_decide_div_mod_eq]
    unfold b2
    have : S / 2 ^ n % 2 = 0 ∨ S / 2 ^ n % 2 = 1 := by omega
    rcases this with q | q <;> rw [q] <;> simp
theorem hv_id {S : Nat} (h : S < 2 ^ n) : hv b2 n S = S := by rw [hv_self, Nat.mod_eq_of_lt h]
theorem add_tog {S x : Nat} (hx : x < n) (hS : S < 2 ^ n) (hb : S.testBit x = false) : S + 2 ^ x = S ^^^ 2 ^ x ∧ S + 2 ^ x < 2 ^ n := by
  have h1 : (S ^^^ 2 ^ x).testBit x = true := by rw [tog_bit, if_pos rfl, hb]; rfl
  have h2 := hv_tog (W := b2) (n := n) hx h1
  rw [tog_tog, hv_id hS, hv_id (tog_lt hS hx)] at h2
  have h3 := tog_lt (n := n) hS hx
  unfold b2 at h2
  omega
theorem hv_add {W : Nat → Nat} {S x : Nat} (hx : x < n) (hS : S < 2 ^ n) (hb : S.testBit x = false) : hv W n (S + 2 ^ x) = hv W n S + W x := by
  rw [(add_tog hx hS hb).1]
  have h1 : (S ^^^ 2 ^ x).testBit x = true := by rw [tog_bit, if_pos rfl, hb]; rfl
  have h2 := hv_tog (W := W) (n := n) hx h1
  rw [tog_tog] at h2
  omega
theorem take_one {k : Nat} (hk : k < p.length) (φ : Int → Nat) : tot (p.take (k + 1)) φ = tot (p.take k) φ + φ (p.getD k 0) := by
  rw [take_succ_getD p k hk, tot_append, tot_cons, tot_nil]; omega
theorem at_nat (hp : p.Perm (sides n)) {k : Nat} (hk : k < n) : ∃ x : Nat, p.getD k 0 = x ∧ x < n := by
  have := mem_sides.1 (hp.mem_iff.1 (getD_mem p k (by rw [perm_len hp]; exact hk)))
  exact ⟨(p.getD k 0).toNat, by omega, by omega⟩
theorem pS_zero (p : List Int) : pS p 0 = 0 := rfl
/-- The first k of p, as a set. -/
theorem pS_all (hp : p.Perm (sides n)) : ∀ k, k ≤ n → pS p k < 2 ^ n ∧ (∀ j, j < n → ((pS p k).testBit j = true ↔ (j : Int) ∈ p.take k)) ∧ ∀ W : Nat → Nat, hv W n (pS p k) = tot (p.take k) (wI W) := by
  intro k
  have hl := perm_len hp
  have hnd := perm_nodup hp
  induction k with
  | zero =>
    intro _
    refine ⟨by rw [pS_zero]; exact Nat.two_pow_pos n, fun j hj => by rw [pS_zero]; simp, fun W => ?_⟩
    rw [pS_zero]
    have : hv W n 0 = sN (fun _ => 0) n := sN_congr (fun j _ => by simp)
    rw [this, sN_zero]; rfl
  | succ k ih =>
    intro hk
    obtain ⟨h1, h2, h3⟩ := ih (by omega)
    obtain ⟨x, hx, hxn⟩ := at_nat hp (show k < n by omega)
    have hnot : (x : Int) ∉ p.take k := by
      intro hm
      obtain ⟨j, hj, he⟩ := List.getElem_of_mem hm
      rw [List.length_take] at hj
      rw [List.getElem_take, ← getD_get (by omega), ← hx] at he
      have e1 := pos_idx hnd (k := j) (by omega)
      have e2 := pos_idx hnd (k := k) (by omega)
      rw [he] at e1
      omega
    have hb : (pS p k).testBit x = false := by
      cases q : (pS p k).testBit x with
      | false => rfl
      | true => exact absurd ((h2 x hxn).1 q) hnot
    have hs : pS p (k + 1) = pS p k + 2 ^ x := by
      unfold pS
      rw [take_one (by omega), hx]
      unfold wI b2
      rw [Int.toNat_natCast]
    obtain ⟨a1, a2⟩ := add_tog hxn h1 hb
    refine ⟨by rw [hs]; exact a2, fun j hj => ?_, fun W => ?_⟩
    · rw [hs, a1, tog_bit, take_succ_getD p k (by omega), List.mem_append, List.mem_singleton, hx]
      by_cases e : x = j
      · subst e; simp [hb]
      · rw [if_neg e, h2 j hj]
        constructor
        · exact .inl
        · rintro (q | q)
          · exact q
          · omega
    · rw [hs, hv_add hxn h1 hb, h3, take_one (by omega), hx]
      unfold wI
      rw [Int.toNat_natCast]
theorem pS_step (hp : p.Perm (sides n)) {k : Nat} (hk : k < n) {x : Nat} (hx : p.getD k 0 = x) : pS p (k + 1) = pS p k + 2 ^ x := by
  have hl := perm_len hp
  unfold pS
  rw [take_one (by omega), hx]
  unfold wI b2
  rw [Int.toNat_natCast]
theorem pS_end (hp : p.Perm (sides n)) : pS p n = 2 ^ n - 1 := by
  have hl := perm_len hp
  obtain ⟨h1, h2, _⟩ := pS_all hp n (Nat.le_refl _)
  apply Nat.eq_of_testBit_eq
  intro j
  rw [Nat.testBit_two_pow_sub_one]
  by_cases hj : j < n
  · rw [decide_eq_true hj]
    have := (h2 j hj).2 (by rw [List.take_of_length_le (by omega)]; exact hp.mem_iff.2 (mem_sides.2 ⟨by omega, by omega⟩))
    exact this
  · rw [decide_eq_false hj]
    exact Nat.testBit_lt_two_pow (Nat.lt_of_lt_of_le h1 (Nat.pow_le_pow_right (by omega) (by omega)))
theorem pre_pS (hp : p.Perm (sides n)) {k : Nat} (hk : k < n) : preP b2 n p (p.getD k 0) = pS p k := pre_take hp hk
theorem row_at (hp : p.Perm (sides n)) {k : Nat} (hk : k < n) : rowG v n p (p.getD k 0) = v (pS p (k + 1)) - v (pS p k) := by
  obtain ⟨x, hx, _⟩ := at_nat hp hk
  unfold rowG
  rw [pre_pS hp hk, pS_step hp hk hx, hx, Int.toNat_natCast]
/-- The set before i: less than all, without i, of the weight of those before. -/
theorem pre_all (hp : p.Perm (sides n)) {i : Nat} (hi : i < n) : preP b2 n p i < 2 ^ n ∧ (preP b2 n p i).testBit i = false ∧ ∀ W : Nat → Nat, hv W n (preP b2 n p i) = preP W n p i := by
  have hl := perm_len hp
  have hnd := perm_nodup hp
  obtain ⟨k, hk, h1, h2⟩ := pos_mem hnd (hp.mem_iff.2 (mem_sides.2 ⟨show (0 : Int) ≤ (i : Int) by omega, by omega⟩))
  have hkn : k < n := by omega
  obtain ⟨a1, a2, a3⟩ := pS_all hp k (by omega)
  rw [← h1, pre_pS hp hkn]
  refine ⟨a1, ?_, fun W => by rw [a3, pre_take hp hkn]⟩
  cases q : (pS p k).testBit i with
  | false => rfl
  | true =>
    have hm := (a2 i hi).1 q
    obtain ⟨j, hj, he⟩ := List.getElem_of_mem hm
    rw [List.length_take] at hj
    rw [List.getElem_take, ← getD_get (by omega)] at he
    have e1 := pos_idx hnd (k := j) (by omega)
    rw [he] at e1
    omega
/-- What all add in one order. -/
theorem row_sum (hp : p.Perm (sides n)) : tI (sides n) (rowG v n p) = v (2 ^ n - 1) - v 0 := by
  have hl := perm_len hp
  have h : ∀ k, k ≤ n → tI (p.take k) (rowG v n p) = v (pS p k) - v 0 := by
    intro k
    induction k with
    | zero => intro _; rw [pS_zero]; simp [tI]
    | succ k ih =>
      intro hk
      rw [take_succ_getD p k (by omega), tI_append, tI_cons, tI_nil, ih (by omega), row_at hp (by omega)]
      omega
  have := h n (Nat.le_refl _)
  rw [List.take_of_length_le (by omega), pS_end hp] at this
  rw [← tI_perm hp, this]
theorem sh_sum : tI (sides n) (shG v n) = ((allO n).length : Int) * (v (2 ^ n - 1) - v 0) := by
  unfold shG
  rw [tI_tL, ← tL_const]
  exact tL_congr (fun p hp => row_sum (mem_allO.1 hp))
theorem sh_add (v w : Nat → Int) (x : Int) : shG (fun S => v S + w S) n x = shG v n x + shG w n x := by
  unfold shG
  rw [← tL_add]
  exact tL_congr (fun p _ => by unfold rowG; dsimp only; omega)
theorem sh_congr {w : Nat → Int} (h : ∀ S, S < 2 ^ n → v S = w S) {i : Nat} (hi : i < n) : shG v n i = shG w n i := by
  unfold shG
  refine tL_congr (fun p hp => ?_)
  obtain ⟨h1, h2, _⟩ := pre_all (mem_allO.1 hp) hi
  unfold rowG
  rw [Int.toNat_natCast, h _ h1, h _ (add_tog hi h1 h2).2]
/-- What each could hinder. -/
theorem sh_dual {i : Nat} (hi : i < n) : shG (fun S => v (2 ^ n - 1) - v (2 ^ n - 1 - S)) n i = shG v n i := by
  have hr : ((allO n).map List.reverse).Perm (allO n) := allO_map (fun p hp => (List.reverse_perm p).trans hp) (fun p q _ _ h => by have := congrArg List.reverse h; simpa using this)
  unfold shG
  rw [← tL_perm hr]
  unfold tL
  rw [List.map_map]
  refine congrArg List.sum (List.map_congr_left (fun p hp => ?_))
  have hp := mem_allO.1 hp
  have h := pre_rev (W := b2) hp hi
  have hf : tot (sides n) (wI b2) = 2 ^ n - 1 := by
    rw [tot_sN, ← hv_full, hv_id (by have := Nat.two_pow_pos n; omega)]
  rw [hf, show b2 i = 2 ^ i from rfl] at h
  unfold rowG
  simp only [Function.comp_apply, Int.toNat_natCast]
  generalize preP b2 n p.reverse i = A at *
  generalize preP b2 n p i = B at *
  generalize 2 ^ i = I at *
  generalize 2 ^ n - 1 = F at *
  rw [show F - (A + I) = B by omega, show F - A = B + I by omega]
  omega
/-- Who makes each set worth as much more. -/
theorem sh_idle {k : Nat} (hk : k < n) {own : Int} (h : ∀ S, S < 2 ^ n → S.testBit k = false → v (S + 2 ^ k) = v S + own) : shG v n k = ((allO n).length : Int) * own := by
  unfold shG
  rw [← tL_const]
  refine tL_congr (fun p hp => ?_)
  obtain ⟨h1, h2, _⟩ := pre_all (mem_allO.1 hp) hk
  unfold rowG
  rw [Int.toNat_natCast, h _ h1 h2]
  omega
/-- Renamed. -/
def rnL (N p : List Int) : List Int := p.map fun x => N.getD x.toNat 0
theorem rn_perm {N : List Int} (hN : N.Perm (sides n)) {p : List Int} (hp : p.Perm (sides n)) : (rnL N p).Perm (sides n) := by
  have hl := perm_len hN
  have h := hp.map (fun x => N.getD x.toNat 0)
  have e : (sides n).map (fun z => N.getD z.toNat 0) = N := by rw [← hl]; exact (as_map N).symm
  rw [e] at h
  exact h.trans hN
def nmW (N : List Int) (i : Nat) : Nat := 2 ^ (N.getD i 0).toNat
theorem ren_pS {N : List Int} (hN : N.Perm (sides n)) (hp : p.Perm (sides n)) {k : Nat} (hk : k ≤ n) : pS (rnL N p) k = hv (nmW N) n (pS p k) := by
  rw [(pS_all hp k hk).2.2]
  unfold pS rnL
  rw [← List.map_take]
  unfold tot
  rw [List.map_map]
  rfl
theorem sh_ren {N : List Int} (hN : N.Perm (sides n)) {w : Nat → Int} (hw : ∀ S, S < 2 ^ n → w (hv (nmW N) n S) = v S) {i : Nat} (hi : i < n) : shG w n (N.getD i 0) = shG v n i := by
  have hr : ((allO n).map (rnL N)).Perm (allO n) := allO_map (fun p hp => rn_perm hN hp) (fun p q hp hq h => by
    have hl := perm_len hp
    have hl2 := perm_len hq
    apply List.ext_getElem (by omega)
    intro k h1 h2
    obtain ⟨x, hx, hxn⟩ := at_nat hp (show k < n by omega)
    obtain ⟨y, hy, hyn⟩ := at_nat hq (show k < n by omega)
    have e : (rnL N p).getD k 0 = (rnL N q).getD k 0 := by rw [h]
    unfold rnL at e
    rw [List.getD_eq_getElem?_getD, List.getD_eq_getElem?_getD, List.getElem?_map, List.getElem?_map, List.getElem?_eq_getElem h1, List.getElem?_eq_getElem h2] at e
    rw [← getD_get h1, ← getD_get h2, hx, hy]
    rw [← getD_get h1, ← getD_get h2, hx, hy] at e
    simp only [Option.map_some, Option.getD_some, Int.toNat_natCast] at e
    have hNn := perm_nodup hN
    have hNl := perm_len hN
    have e1 := pos_idx hNn (k := x) (by omega)
    have e2 := pos_idx hNn (k := y) (by omega)
    rw [e] at e1
    have : x = y := by omega
    rw [this])
  unfold shG
  rw [← tL_perm hr]
  unfold tL
  rw [List.map_map]
  refine congrArg List.sum (List.map_congr_left (fun p hp => ?_))
  have hp := mem_allO.1 hp
  have hl := perm_len hp
  have hnd := perm_nodup hp
  obtain ⟨k, hk, h1, h2⟩ := pos_mem hnd (hp.mem_iff.2 (mem_sides.2 ⟨show (0 : Int) ≤ (i : Int) by omega, by omega⟩))
  have hkn : k < n := by omega
  have e1 : (rnL N p).getD k 0 = N.getD i 0 := by
    unfold rnL
    rw [List.getD_eq_getElem?_getD, List.getElem?_map, List.getElem?_eq_getElem hk, ← getD_get hk, h1]
    simp
  rw [Function.comp_apply, ← e1, row_at (rn_perm hN hp) hkn, ← h1, row_at hp hkn, ren_pS hN hp (by omega), ren_pS hN hp (by omega), hw _ (pS_all hp (k + 1) (by omega)).1, hw _ (pS_all hp k (by omega)).1]
/-- A vote by weights as such a game. -/
theorem sh_turns {W : Nat → Nat} {q i : Nat} (hi : i < n) : shG (fun S => if q ≤ hv W n S then 1 else 0) n i = (tuN W n q i : Int) := by
  unfold shG tuN
  have : ∀ L : List (List Int), (∀ p ∈ L, p.Perm (sides n)) → tL L (fun p => rowG (fun S => if q ≤ hv W n S then 1 else 0) n p i) = ((L.countP (fun p => critP W n q p (i : Int)) : Nat) : Int) := by
    intro L
    induction L with
    | nil => intro _; rfl
    | cons p L ih =>
      intro hL
      obtain ⟨h1, h2, h3⟩ := pre_all (hL p (by simp)) hi
      rw [tL_cons, ih (fun q hq => hL q (by simp [hq])), List.countP_cons]
      unfold rowG critP
      dsimp only
      rw [Int.toNat_natCast, hv_add hi h1 h2, h3]
      unfold wI
      rw [Int.toNat_natCast]
      by_cases c1 : q ≤ preP W n p i
      · rw [if_pos (by omega), if_pos c1, decide_eq_false (show ¬ preP W n p i < q by omega)]
        simp
      · rw [if_neg c1, decide_eq_true (show preP W n p i < q by omega)]
        by_cases c2 : q ≤ preP W n p i + W i
        · rw [if_pos c2, decide_eq_true c2]; simp; omega
        · rw [if_neg c2, decide_eq_false c2]; simp
  exact this _ (fun p hp => mem_allO.1 hp)
end
end Fm

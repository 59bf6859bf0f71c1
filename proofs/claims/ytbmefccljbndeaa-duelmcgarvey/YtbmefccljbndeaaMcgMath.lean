/-
  McGarvey's ballots: what they count, lists of ints alone, no Go text.
-/
import Derived.Test.YtbmefccljbndeaaDuelMath
namespace Fm
set_option linter.unusedVariables false

def bal1 (n : Nat) (b : List Int) : List Int := b ++ others n b
def bal2 (n : Nat) (b : List Int) : List Int := (others n b).reverse ++ b
def bef (p : List Int) (x y : Int) : Int := if pos p x < pos p y then 1 else 0
/-- What one pair adds to the margin of x over y. -/
def con (n : Nat) (b : List Int) (x y : Int) : Int := (bef (bal1 n b) x y + bef (bal2 n b) x y) - (bef (bal1 n b) y x + bef (bal2 n b) y x)
def conV (p q x y : Nat) : Int := if x = p ∧ y = q then 2 else if x = q ∧ y = p then -2 else 0
def conOk (n : Nat) : Bool := (List.range n).all fun p => (List.range n).all fun q => p == q || (List.range n).all fun x => (List.range n).all fun y => decide (con n [(p : Int), (q : Int)] x y = conV p q x y)
theorem conOk_all : conOk 0 = true ∧ conOk 1 = true ∧ conOk 2 = true ∧ conOk 3 = true ∧ conOk 4 = true ∧ conOk 5 = true ∧ conOk 6 = true := by decide +kernel
theorem six {P : Nat → Prop} (h : P 0 ∧ P 1 ∧ P 2 ∧ P 3 ∧ P 4 ∧ P 5 ∧ P 6) {n : Nat} (hn : n < 7) : P n := by
  obtain ⟨h0, h1, h2, h3, h4, h5, h6⟩ := h
  match n, hn with
  | 0, _ => exact h0
  | 1, _ => exact h1
  | 2, _ => exact h2
  | 3, _ => exact h3
  | 4, _ => exact h4
  | 5, _ => exact h5
  | 6, _ => exact h6
theorem con_all (n : Nat) (hn : n < 7) (p : Nat) (hp : p < n) (q : Nat) (hq : q < n) (hpq : p ≠ q) (x : Nat) (hx : x < n) (y : Nat) (hy : y < n) :
    con n [(p : Int), (q : Int)] x y = if x = p ∧ y = q then 2 else if x = q ∧ y = p then -2 else 0 := by
  have h := six (P := fun n => conOk n = true) conOk_all hn
  unfold conOk at h
  simp only [List.all_eq_true, List.mem_range, Bool.or_eq_true, beq_iff_eq, decide_eq_true_eq] at h
  rcases h p hp q hq with h | h
  · exact absurd h hpq
  · exact h x hx y hy
def ordOk (n : Nat) : Bool := (List.range n).all fun p => (List.range n).all fun q => p == q || (decide (chk n (bal1 n [(p : Int), (q : Int)]) = 0) && decide (chk n (bal2 n [(p : Int), (q : Int)]) = 0))
theorem ordOk_all : ordOk 0 = true ∧ ordOk 1 = true ∧ ordOk 2 = true ∧ ordOk 3 = true ∧ ordOk 4 = true ∧ ordOk 5 = true ∧ ordOk 6 = true := by decide +kernel
theorem bal_ord (n : Nat) (hn : n < 7) (p : Nat) (hp : p < n) (q : Nat) (hq : q < n) (hpq : p ≠ q) : chk n (bal1 n [(p : Int), (q : Int)]) = 0 ∧ chk n (bal2 n [(p : Int), (q : Int)]) = 0 := by
  have h := six (P := fun n => ordOk n = true) ordOk_all hn
  unfold ordOk at h
  simp only [List.all_eq_true, List.mem_range, Bool.or_eq_true, Bool.and_eq_true, beq_iff_eq, decide_eq_true_eq] at h
  rcases h p hp q hq with h | h
  · exact absurd h hpq
  · exact h

theorem pair_form {n : Int} {b : List Int} (h : okPair n b) : b = [b.getD 0 0, b.getD 1 0] := by
  obtain ⟨h1, _⟩ := h
  match b, h1 with
  | [x, y], _ => rfl
theorem pair_nat {n : Nat} {b : List Int} (h : okPair n b) : ∃ p q : Nat, b = [(p : Int), (q : Int)] ∧ p < n ∧ q < n ∧ p ≠ q := by
  have e := pair_form h
  obtain ⟨_, h2, h3, h4⟩ := h
  refine ⟨(b.getD 0 0).toNat, (b.getD 1 0).toNat, ?_, by omega, by omega, by omega⟩
  rw [show (((b.getD 0 0).toNat : Nat) : Int) = b.getD 0 0 by omega, show (((b.getD 1 0).toNat : Nat) : Int) = b.getD 1 0 by omega]
  exact e
theorem mcg_cons (n : Nat) (b : List Int) (L : List (List Int)) : mcg n (b :: L) = bal1 n b :: bal2 n b :: mcg n L := rfl
def dif (V : List (List Int)) (x y : Int) : Int := (cnt V x y : Int) - cnt V y x
theorem cnt_cons (p : List Int) (V : List (List Int)) (x y : Int) : (cnt (p :: V) x y : Int) = bef p x y + cnt V x y := by
  unfold cnt bef
  rw [List.countP_cons]
  by_cases h : pos p x < pos p y <;> simp [h] <;> omega
theorem dif_cons (n : Nat) (b : List Int) (L : List (List Int)) (x y : Int) : dif (mcg n (b :: L)) x y = con n b x y + dif (mcg n L) x y := by
  unfold dif con
  rw [mcg_cons, cnt_cons, cnt_cons, cnt_cons, cnt_cons]
  omega
/-- No two are the same pair, either way round. -/
def Fresh (L : List (List Int)) : Prop := L.Pairwise fun a b => a ≠ b ∧ a ≠ b.reverse
theorem dif_mcg {n : Nat} (h6 : n ≤ 6) {L : List (List Int)} (hok : ∀ b ∈ L, okPair n b) (hf : Fresh L) {x y : Nat} (hx : x < n) (hy : y < n) :
    ([(x : Int), (y : Int)] ∈ L → dif (mcg n L) x y = 2) ∧ ([(y : Int), (x : Int)] ∈ L → dif (mcg n L) x y = -2) ∧ ([(x : Int), (y : Int)] ∉ L → [(y : Int), (x : Int)] ∉ L → dif (mcg n L) x y = 0) := by
  induction L with
  | nil => exact ⟨(fun h => by cases h), (fun h => by cases h), fun _ _ => by simp [dif, mcg, cnt]⟩
  | cons b L ih =>
    have hf' := List.pairwise_cons.1 hf
    obtain ⟨i1, i2, i3⟩ := ih (fun c hc => hok c (by simp [hc])) hf'.2
    obtain ⟨p, q, rfl, hp, hq, hpq⟩ := pair_nat (hok b (by simp))
    rw [dif_cons, con_all n (by omega) p hp q hq hpq x hx y hy]
    have n1 : ∀ c ∈ L, c ≠ [(p : Int), (q : Int)] := fun c hc e => (hf'.1 c hc).1 e.symm
    have n2 : ∀ c ∈ L, c ≠ [(q : Int), (p : Int)] := fun c hc e => (hf'.1 c hc).2 (by rw [e]; rfl)
    by_cases h1 : x = p ∧ y = q
    · obtain ⟨rfl, rfl⟩ := h1
      rw [if_pos ⟨rfl, rfl⟩]
      have a1 : [(x : Int), (y : Int)] ∉ L := fun h => n1 _ h rfl
      have a2 : [(y : Int), (x : Int)] ∉ L := fun h => n2 _ h rfl
      have a3 := i3 a1 a2
      refine ⟨fun _ => by omega, fun h => ?_, fun h => absurd (by simp) h⟩
      rcases List.mem_cons.1 h with h | h
      · injection h with h _; omega
      · exact absurd h a2
    · rw [if_neg h1]
      by_cases h2 : x = q ∧ y = p
      · obtain ⟨rfl, rfl⟩ := h2
        rw [if_pos ⟨rfl, rfl⟩]
        have a1 : [(x : Int), (y : Int)] ∉ L := fun h => n2 _ h rfl
        have a2 : [(y : Int), (x : Int)] ∉ L := fun h => n1 _ h rfl
        have a3 := i3 a1 a2
        refine ⟨fun h => ?_, fun _ => by omega, fun _ h => absurd (by simp) h⟩
        rcases List.mem_cons.1 h with h | h
        · injection h with h h'; injection h' with h' _; omega
        · exact absurd h a1
      · rw [if_neg h2, Int.zero_add]
        have e1 : [(x : Int), (y : Int)] ∈ [(p : Int), (q : Int)] :: L ↔ [(x : Int), (y : Int)] ∈ L := by
          constructor
          · intro h
            rcases List.mem_cons.1 h with h | h
            · injection h with h h'; injection h' with h' _; exact absurd ⟨by omega, by omega⟩ h1
            · exact h
          · exact fun h => List.mem_cons_of_mem _ h
        have e2 : [(y : Int), (x : Int)] ∈ [(p : Int), (q : Int)] :: L ↔ [(y : Int), (x : Int)] ∈ L := by
          constructor
          · intro h
            rcases List.mem_cons.1 h with h | h
            · injection h with h h'; injection h' with h' _; exact absurd ⟨by omega, by omega⟩ h2
            · exact h
          · exact fun h => List.mem_cons_of_mem _ h
        rw [e1, e2]
        exact ⟨i1, i2, i3⟩
theorem mcg_ok {n : Nat} (h1 : 1 ≤ n) (h6 : n ≤ 6) {L : List (List Int)} (hok : ∀ b ∈ L, okPair n b) (hL : L.length ≤ 15) (hlen : (mcg n L).length = 2 * L.length) : vchk n (mcg n L) = 0 := by
  refine vchk_ok (by omega) (by omega) (fun l hl => ?_)
  unfold mcg at hl
  rw [List.mem_flatMap] at hl
  obtain ⟨b, hb, hl⟩ := hl
  obtain ⟨p, q, rfl, hp, hq, hpq⟩ := pair_nat (hok b hb)
  have := bal_ord n (by omega) p hp q hq hpq
  simp at hl
  rcases hl with rfl | rfl
  · exact this.1
  · exact this.2
def code (b : List Int) : Int := min (b.getD 0 0) (b.getD 1 0) * 6 + max (b.getD 0 0) (b.getD 1 0)
def codes : List Int := [1, 2, 3, 4, 5, 8, 9, 10, 11, 15, 16, 17, 22, 23, 29]
theorem code_in : ∀ p, p < 6 → ∀ q, q < 6 → p ≠ q → code [((p : Nat) : Int), ((q : Nat) : Int)] ∈ codes := by decide +kernel
theorem nodup_codes : ∀ (l m : List Int), l.Nodup → (∀ x ∈ l, x ∈ m) → l.length ≤ m.length := by
  intro l
  induction l with
  | nil => intro m _ _; simp
  | cons a t ih =>
    intro m hn hs
    have ha := hs a (by simp)
    rw [List.nodup_cons] at hn
    have h1 := ih (m.erase a) hn.2 (fun x hx => by
      have hne : x ≠ a := fun e => hn.1 (e ▸ hx)
      exact (List.mem_erase_of_ne hne).2 (hs x (by simp [hx])))
    rw [List.length_erase_of_mem ha] at h1
    have := List.length_pos_of_mem ha
    simp
    omega
theorem fresh_len {n : Nat} (h6 : n ≤ 6) {L : List (List Int)} (hok : ∀ b ∈ L, okPair n b) (hf : Fresh L) : L.length ≤ 15 := by
  have hn : (L.map code).Nodup := by
    rw [List.Nodup, List.pairwise_map]
    refine (List.pairwise_iff_forall_sublist.2 ?_)
    intro a b hab
    have hm := List.pairwise_iff_forall_sublist.1 hf hab
    have ha := pair_nat (hok a (hab.subset (by simp)))
    have hb := pair_nat (hok b (hab.subset (by simp)))
    obtain ⟨p, q, rfl, hp, hq, hpq⟩ := ha
    obtain ⟨r, s, rfl, hr, hs, hrs⟩ := hb
    intro he
    unfold code at he
    simp at he
    have : (p = r ∧ q = s) ∨ (p = s ∧ q = r) := by omega
    rcases this with ⟨rfl, rfl⟩ | ⟨rfl, rfl⟩
    · exact hm.1 rfl
    · exact hm.2 rfl
  have := nodup_codes (L.map code) codes hn (fun x hx => by
    rw [List.mem_map] at hx
    obtain ⟨b, hb, rfl⟩ := hx
    obtain ⟨p, q, rfl, hp, hq, hpq⟩ := pair_nat (hok b hb)
    exact code_in p (by omega) q (by omega) hpq)
  rw [List.length_map] at this
  exact this
theorem fresh_snoc {L : List (List Int)} (hf : Fresh L) {x y : Int} (h1 : [x, y] ∉ L) (h2 : [y, x] ∉ L) : Fresh (L ++ [[x, y]]) := by
  unfold Fresh
  rw [List.pairwise_append]
  refine ⟨hf, by simp, fun a ha b hb => ?_⟩
  simp at hb
  subst hb
  exact ⟨fun e => h1 (e ▸ ha), fun e => h2 (by rw [e] at ha; exact ha)⟩
end Fm

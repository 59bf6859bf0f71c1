/-
  Several of our texts, one behind the other, each under its own words; no condition but those that each states.
-/
import Derived.Test.YthcaipnlgbnfkaaM3
import Derived.Test.YthcaipnlgbnfkaaPureA
import Derived.Test.YthcaipnlgbnfkaaProg
import Derived.WalkKit
import Derived.KernelRfl
import Derived.Laws.NewBlocks
/-
  McGarvey's ballots, one pair after another: lists of ints alone.
-/
namespace Go.Proofs.Ythcaipnlgbnfkaa
open Go.RowKit Fm
set_option linter.unusedVariables false

theorem mcg_succ (n : Nat) (L : List (List Int)) {k : Nat} (h : k < L.length) : mcg n (L.take (k + 1)) = (mcg n (L.take k) ++ [L.getD k [] ++ others n (L.getD k [])]) ++ [(others n (L.getD k [])).reverse ++ L.getD k []] := by
  unfold mcg
  rw [List.take_succ_eq_append_getElem h, List.flatMap_append, List.getD_eq_getElem?_getD, List.getElem?_eq_getElem h]
  simp
theorem mcg_len (n : Nat) (L : List (List Int)) : (mcg n L).length = 2 * L.length := by
  unfold mcg
  induction L with
  | nil => rfl
  | cons b L ih => simp [List.flatMap_cons] at ih ⊢; omega
theorem others_len (n : Nat) (b : List Int) : (others n b).length ≤ n := by
  unfold others; exact Nat.le_trans (List.length_filter_le _ _) (by rw [sides_len]; exact Nat.le_refl _)
theorem mcg_rows {n : Nat} {L : List (List Int)} (hL : ∀ b ∈ L, b.length = 2) {l : List Int} (h : l ∈ mcg n L) : l.length ≤ n + 2 := by
  unfold mcg at h
  rw [List.mem_flatMap] at h
  obtain ⟨b, hb, hl⟩ := h
  have h1 := hL b hb
  have h2 := others_len n b
  simp at hl
  rcases hl with rfl | rfl <;> simp <;> omega

/-- One of the pair. -/
def ofPair (b : List Int) (x : Int) : Bool := x == b.getD 0 0 || x == b.getD 1 0
theorem lit_two (w : World) (t : TypeId) (p q : List Int) (a1 a2 : Option Addr) (n1 c1 n2 c2 : Nat) (h1 : Rd w w.heap.size a1 n1 p) (h1c : n1 ≤ c1) (h1n : a1 = none → c1 = 0) (h1m : c1 ≤ maxLen) (h2 : Rd w w.heap.size a2 n2 q) (h2c : n2 ≤ c2) (h2n : a2 = none → c2 = 0) (h2m : c2 ≤ maxLen) :
    RdR (w.alloc (.cells #[.slice a1 n1 c1, .slice a2 n2 c2] t)) (w.alloc (.cells #[.slice a1 n1 c1, .slice a2 n2 c2] t)).heap.size (some ⟨w.heap.size, 0, none⟩) 2 [p, q] := by
  obtain rfl := h1.1
  obtain rfl := h2.1
  have h := rdr_lit w t [p, q] #[.slice a1 p.length c1, .slice a2 q.length c2] rfl (fun j hj => by
    match j, hj with
    | 0, _ => exact ⟨a1, c1, rfl, h1c, h1n, h1m, h1⟩
    | 1, _ => exact ⟨a2, c2, rfl, h2c, h2n, h2m, h2⟩)
  exact h.more (by simp)
end Go.Proofs.Ythcaipnlgbnfkaa

/-
  slices.IndexFunc and slices.ContainsFunc over a slice of ints, whatever the function is that they are handed, if it answers P and writes nothing that was there.
-/
namespace Go.Proofs.Ythcaipnlgbnfkaa
open Go.RowKit Fm
set_option linter.unusedVariables false

/-- Function k has a body of its own. -/
def Enters (k : Nat) : Prop := ∀ (args : Array Value) (w : World), Sem.run Try.prog (callFunc k args) w = .ok (.enter k args) w
/-- The function of number k, with what it holds, answers P at the ints of l in every world that keeps what lies below B. -/
def Tells (k : Nat) (env : Array Value) (l : List Int) (P : Int → Bool) (w : World) : Prop :=
  ∀ x ∈ l, ∀ w1, Below w.heap.size w w1 → Calls Try.prog k (#[.int .i64 x] ++ env) w1 fun e w' => e = .returned (.bool (P x)) ∧ Below w1.heap.size w1 w'

set_option maxHeartbeats 400000 in
set_option maxRecDepth 100000 in
theorem indexFuncI_any (k : Nat) (hk : Enters k) (env : Array Value) (P : Int → Bool) (a : Option Addr) (m c : Nat) (l : List Int) (w : World) (B : Nat) (hB : B ≤ w.heap.size) (hr : Rd w B a m l) (hm : m ≤ 17592186044416) (hf : Tells k env l P w) :
    Calls Try.prog 61 #[.slice a m c, .func (.func k) #[] env] w fun e w' => ∃ r : Int, e = .returned (.int .i64 r) ∧ ((∀ x ∈ l, P x = false) → r = -1) ∧ (¬ (∀ x ∈ l, P x = false) → ∃ i : Nat, r = i ∧ i < m ∧ P (l.getD i 0) = true ∧ ∀ t, t < i → P (l.getD t 0) = false) ∧ Below w.heap.size w w' := by
  have HR := Lib.hid hr
  have HL := Lib.hid hr.1
  have HF := Lib.hid hf
  have HK : Hid (Enters k) := hk
  clear hr hf hk
  go_enter Try.func61, Try.ntmps61
  go_wp2
  go_loopw [8] (fun i wr => ∃ j : Nat, j ≤ m ∧ i = .int .i64 j ∧ (∀ t, t < j → P (l.getD t 0) = false) ∧ Below w.heap.size w wr) (fun i _ => m - (intOf i).toNat)
  case atStart => exact ⟨0, Nat.zero_le _, rfl, fun t ht => by omega, Below.refl _ _⟩
  case round =>
    obtain ⟨j, hj, rfl, hall, hbel⟩ := hrel
    have HA := Lib.hid hall
    clear hall
    have hz := hbel.size
    by_cases hlt : j < m
    · obtain ⟨b, o, rfl, hb, hcell⟩ := HR.out.at_ hlt
      have hck : wr.cell? ⟨b, o + j, none⟩ = some (.int .i64 (l.getD j 0)) := (hbel.cell (by show b < _; omega)).trans hcell
      have hjl : j < l.length := by rw [HL.out]; exact hlt
      have HMEM := Lib.hid (getD_mem l j hjl)
      have HCL := Lib.hid (HF.out _ HMEM.out wr hbel)
      have HA2 : Hid (P (l.getD j 0) = false → ∀ t, t < j + 1 → P (l.getD t 0) = false) := fun h t ht => by
        by_cases e : t = j
        · subst e; exact h
        · exact HA.out t (by omega)
      have HN2 : Hid (P (l.getD j 0) = true → (¬ ∀ x ∈ l, P x = false) ∧ ∃ i : Nat, (j : Int) = i ∧ i < m ∧ P (l.getD i 0) = true ∧ ∀ t, t < i → P (l.getD t 0) = false) := fun h => ⟨(fun hh => by
        have := hh _ HMEM.out
        rw [h] at this; cases this), j, rfl, hlt, h, HA.out⟩
      clear hcell HA
      generalize hp : P (l.getD j 0) = p at *
      clear hp
      generalize l.getD j 0 = x at *
      go_wp2_with fail
      rw [HK.out, Oper.upon_enter]
      refine HCL.out.mono ?_
      rintro e w1 ⟨rfl, hb1⟩
      have hb2 := hbel.trans (hb1.mono hz)
      clear hb1 hbel hck
      cases p with
      | false =>
        have HX := Lib.hid (HA2.out rfl)
        go_wp2
        go_roundw
        case rel => exact ⟨j + 1, by omega, by go_num, HX.out, hb2⟩
        case measure => simp [intOf]; omega
      | true =>
        have HX := Lib.hid (HN2.out rfl)
        go_wp2
        go_ret
        exact ⟨j, rfl, fun h => absurd h HX.out.1, fun _ => HX.out.2, hb2⟩
    · obtain rfl : j = m := by omega
      have hall : ∀ x ∈ l, P x = false := fun x hx => by
        obtain ⟨t, ht, rfl⟩ := List.getElem_of_mem hx
        have := HA.out t (by rw [← HL.out]; exact ht)
        rwa [getD_get ht] at this
      have HALL := Lib.hid hall
      clear hall
      go_wp2
      go_ret
      exact ⟨-1, rfl, fun _ => rfl, fun h => absurd HALL.out h, hbel⟩

set_option maxHeartbeats 400000 in
set_option maxRecDepth 100000 in
theorem containsFuncI_any (k : Nat) (hk : Enters k) (env : Array Value) (P : Int → Bool) (a : Option Addr) (m c : Nat) (l : List Int) (w : World) (B : Nat) (hB : B ≤ w.heap.size) (hr : Rd w B a m l) (hm : m ≤ 17592186044416) (hf : Tells k env l P w) :
    Calls Try.prog 25 #[.slice a m c, .func (.func k) #[] env] w fun e w' => e = .returned (.bool (l.any P)) ∧ Below w.heap.size w w' := by
  have HC := Lib.hid (indexFuncI_any k hk env P a m c l w B hB hr hm hf)
  have HT : Hid (l.any P = false → ∀ x ∈ l, P x = false) := fun h x hx => by
    rw [List.any_eq_false] at h
    have := h x hx
    simpa using this
  have HN : Hid (l.any P = true → ¬ ∀ x ∈ l, P x = false) := fun h hh => by
    rw [List.any_eq_true] at h
    obtain ⟨x, hx, hp⟩ := h
    rw [hh x hx] at hp; cases hp
  clear hr hf hk
  generalize l.any P = r at *
  go_enter Try.func25, Try.ntmps25
  go_wp2_with fail
  refine HC.out.mono ?_
  rintro e w1 ⟨i, rfl, h1, h2, hb⟩
  cases r with
  | false =>
    obtain rfl := h1 (HT.out rfl)
    clear h1 h2 HC
    go_wp2
    go_ret
    exact ⟨rfl, hb⟩
  | true =>
    obtain ⟨ii, rfl, _⟩ := h2 (HN.out rfl)
    clear h1 h2 HC
    go_wp2
    go_ret
    exact ⟨rfl, hb⟩
end Go.Proofs.Ythcaipnlgbnfkaa

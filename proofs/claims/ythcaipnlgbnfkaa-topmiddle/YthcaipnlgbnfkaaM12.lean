/-
  Several of our texts, one behind the other, each under its own words; no condition but those that each states.
-/
import Derived.Test.YthcaipnlgbnfkaaShelf
import Derived.Test.YthcaipnlgbnfkaaPureA
import Derived.WalkKit
import Derived.KernelRfl
import Derived.Laws.NewBlocks
import Derived.Test.YthcaipnlgbnfkaaProg
import Derived.Test.YthcaipnlgbnfkaaM3
/-
  slices.Index at slices of ints, nil let in: what it returns.
-/
namespace Go.Proofs.Ythcaipnlgbnfkaa
open Go.RowKit Fm
set_option linter.unusedVariables false

theorem index_any (p : List Int) (x : Int) (a : Option Addr) (n c : Nat) (w : World) (B : Nat) (hp : Rd w B a n p) (hn : n ≤ 9223372036854775807) :
    Calls Try.prog 77 #[.slice a n c, .int .i64 x] w fun e w' => e = .returned (.int .i64 (Lib.idxOf p x)) ∧ w = w' := by
  have hl := hp.1
  by_cases h0 : n = 0
  · subst h0
    have e1 := List.eq_nil_of_length_eq_zero hl
    subst e1
    exact (Try.slices_Index_int_empty a c x w).mono fun e w' ⟨h1, h2⟩ => ⟨h1, h2.symm⟩
  · obtain ⟨b, o, rfl, _, hc⟩ := hp.2 (by omega)
    have h := Try.slices_Index_int b o n c p x w (by omega) hn (fun j hj => hc j (by omega))
    rw [List.take_of_length_le (by omega)] at h
    exact h.mono fun e w' ⟨h1, h2⟩ => ⟨h1, h2.symm⟩

theorem idx_hit {p : List Int} (hp : p.Nodup) {k : Nat} (hk : k < p.length) {x : Int} (hx : p.getD k 0 = x) : Lib.idxOf p x = k := by
  have h := Lib.idxOf_hit p p.length k x hk (Nat.le_refl _) hx (fun j hj e => by
    rw [← hx, getD_get (by omega), getD_get hk] at e
    have := (List.getElem_inj hp).1 e
    omega)
  rw [List.take_of_length_le (Nat.le_refl _)] at h
  exact h
theorem idx_miss {p : List Int} {x : Int} (hx : x ∉ p) : Lib.idxOf p x = -1 := by
  have h := Lib.idxOf_miss p p.length x (fun j hj e => hx (by rw [← e]; exact getD_mem p j hj))
  rw [List.take_of_length_le (Nat.le_refl _)] at h
  exact h
end Go.Proofs.Ythcaipnlgbnfkaa

/-
  slices.IndexFunc and slices.ContainsFunc over a slice of ints, whatever the function is that they are handed, if it answers P and writes nothing that was there.
-/
namespace Go.Proofs.Ythcaipnlgbnfkaa
open Go.RowKit Fm
set_option linter.unusedVariables false

/-- Function k has a body of its own. -/
def Enters (k : Nat) : Prop := ∀ (args : Array Value) (w : World), Sem.run Try.prog (callFunc k args) w = .ok (.enter k args) w
/-- The function of number k, with what it holds, answers P at the ints of l in every world that keeps what lies below B. -/
def Tells (k : Nat) (env : Array Value) (l : List Int) (P : Int → Bool) (w : World) : Prop :=
  ∀ x ∈ l, ∀ w1, Below w.heap.size w w1 → Calls Try.prog k (#[.int .i64 x] ++ env) w1 fun e w' => e = .returned (.bool (P x)) ∧ Below w1.heap.size w1 w'

set_option maxHeartbeats 400000 in
set_option maxRecDepth 100000 in
theorem indexFuncI_any (k : Nat) (hk : Enters k) (env : Array Value) (P : Int → Bool) (a : Option Addr) (m c : Nat) (l : List Int) (w : World) (B : Nat) (hB : B ≤ w.heap.size) (hr : Rd w B a m l) (hm : m ≤ 17592186044416) (hf : Tells k env l P w) :
    Calls Try.prog 61 #[.slice a m c, .func (.func k) #[] env] w fun e w' => ∃ r : Int, e = .returned (.int .i64 r) ∧ ((∀ x ∈ l, P x = false) → r = -1) ∧ (¬ (∀ x ∈ l, P x = false) → ∃ i : Nat, r = i ∧ i < m ∧ P (l.getD i 0) = true ∧ ∀ t, t < i → P (l.getD t 0) = false) ∧ Below w.heap.size w w' := by
  have HR := Lib.hid hr
  have HL := Lib.hid hr.1
  have HF := Lib.hid hf
  have HK : Hid (Enters k) := hk
  clear hr hf hk
  go_enter Try.func61, Try.ntmps61
  go_wp2
  go_loopw [8] (fun i wr => ∃ j : Nat, j ≤ m ∧ i = .int .i64 j ∧ (∀ t, t < j → P (l.getD t 0) = false) ∧ Below w.heap.size w wr) (fun i _ => m - (intOf i).toNat)
  case atStart => exact ⟨0, Nat.zero_le _, rfl, fun t ht => by omega, Below.refl _ _⟩
  case round =>
    obtain ⟨j, hj, rfl, hall, hbel⟩ := hrel
    have HA := Lib.hid hall
    clear hall
    have hz := hbel.size
    by_cases hlt : j < m
    · obtain ⟨b, o, rfl, hb, hcell⟩ := HR.out.at_ hlt
      have hck : wr.cell? ⟨b, o + j, none⟩ = some (.int .i64 (l.getD j 0)) := (hbel.cell (by show b < _; omega)).trans hcell
      have hjl : j < l.length := by rw [HL.out]; exact hlt
      have HMEM := Lib.hid (getD_mem l j hjl)
      have HCL := Lib.hid (HF.out _ HMEM.out wr hbel)
      have HA2 : Hid (P (l.getD j 0) = false → ∀ t, t < j + 1 → P (l.getD t 0) = false) := fun h t ht => by
        by_cases e : t = j
        · subst e; exact h
        · exact HA.out t (by omega)
      have HN2 : Hid (P (l.getD j 0) = true → (¬ ∀ x ∈ l, P x = false) ∧ ∃ i : Nat, (j : Int) = i ∧ i < m ∧ P (l.getD i 0) = true ∧ ∀ t, t < i → P (l.getD t 0) = false) := fun h => ⟨(fun hh => by
        have := hh _ HMEM.out
        rw [h] at this; cases this), j, rfl, hlt, h, HA.out⟩
      clear hcell HA
      generalize hp : P (l.getD j 0) = p at *
      clear hp
      generalize l.getD j 0 = x at *
      go_wp2_with fail
      rw [HK.out, Oper.upon_enter]
      refine HCL.out.mono ?_
      rintro e w1 ⟨rfl, hb1⟩
      have hb2 := hbel.trans (hb1.mono hz)
      clear hb1 hbel hck
      cases p with
      | false =>
        have HX := Lib.hid (HA2.out rfl)
        go_wp2
        go_roundw
        case rel => exact ⟨j + 1, by omega, by go_num, HX.out, hb2⟩
        case measure => simp [intOf]; omega
      | true =>
        have HX := Lib.hid (HN2.out rfl)
        go_wp2
        go_ret
        exact ⟨j, rfl, fun h => absurd h HX.out.1, fun _ => HX.out.2, hb2⟩
    · obtain rfl : j = m := by omega
      have hall : ∀ x ∈ l, P x = false := fun x hx => by
        obtain ⟨t, ht, rfl⟩ := List.getElem_of_mem hx
        have := HA.out t (by rw [← HL.out]; exact ht)
        rwa [getD_get ht] at this
      have HALL := Lib.hid hall
      clear hall
      go_wp2
      go_ret
      exact ⟨-1, rfl, fun _ => rfl, fun h => absurd HALL.out h, hbel⟩

set_option maxHeartbeats 400000 in
set_option maxRecDepth 100000 in
theorem containsFuncI_any (k : Nat) (hk : Enters k) (env : Array Value) (P : Int → Bool) (a : Option Addr) (m c : Nat) (l : List Int) (w : World) (B : Nat) (hB : B ≤ w.heap.size) (hr : Rd w B a m l) (hm : m ≤ 17592186044416) (hf : Tells k env l P w) :
    Calls Try.prog 25 #[.slice a m c, .func (.func k) #[] env] w fun e w' => e = .returned (.bool (l.any P)) ∧ Below w.heap.size w w' := by
  have HC := Lib.hid (indexFuncI_any k hk env P a m c l w B hB hr hm hf)
  have HT : Hid (l.any P = false → ∀ x ∈ l, P x = false) := fun h x hx => by
    rw [List.any_eq_false] at h
    have := h x hx
    simpa using this
  have HN : Hid (l.any P = true → ¬ ∀ x ∈ l, P x = false) := fun h hh => by
    rw [List.any_eq_true] at h
    obtain ⟨x, hx, hp⟩ := h
    rw [hh x hx] at hp; cases hp
  clear hr hf hk
  generalize l.any P = r at *
  go_enter Try.func25, Try.ntmps25
  go_wp2_with fail
  refine HC.out.mono ?_
  rintro e w1 ⟨i, rfl, h1, h2, hb⟩
  cases r with
  | false =>
    obtain rfl := h1 (HT.out rfl)
    clear h1 h2 HC
    go_wp2
    go_ret
    exact ⟨rfl, hb⟩
  | true =>
    obtain ⟨ii, rfl, _⟩ := h2 (HN.out rfl)
    clear h1 h2 HC
    go_wp2
    go_ret
    exact ⟨rfl, hb⟩
end Go.Proofs.Ythcaipnlgbnfkaa

/-
  Single-peaked orders by their places along the line, and the one in the middle of all first ones laid along the line: lists of ints alone, no Go text.
-/
namespace Fm
set_option linter.unusedVariables false

/-- The places in p of the alternatives of the line. -/
def posL (line p : List Int) : List Int := line.map (pos p)
/-- One to the left of i and one to the right of i are smaller than the i-th. -/
def dipL (l : List Int) (i : Nat) : Bool := (l.take i).any fun y => decide (y < l.getD i 0)
def dipR (l : List Int) (i : Nat) : Bool := (l.drop (i + 1)).any fun y => decide (y < l.getD i 0)
theorem posL_len (line p : List Int) : (posL line p).length = line.length := by unfold posL; rw [List.length_map]
theorem posL_at {line p : List Int} {i : Nat} (h : i < line.length) : (posL line p).getD i 0 = pos p (line.getD i 0) := by
  rw [getD_get (by rw [posL_len]; exact h), getD_get h]; unfold posL; rw [List.getElem_map]
theorem dipL_iff {l : List Int} {i : Nat} (hi : i < l.length) : dipL l i = true ↔ ∃ j, j < i ∧ l.getD j 0 < l.getD i 0 := by
  unfold dipL
  rw [List.any_eq_true]
  constructor
  · rintro ⟨y, hy, h⟩
    obtain ⟨j, hj, rfl⟩ := List.getElem_of_mem hy
    rw [List.length_take] at hj
    rw [List.getElem_take] at h
    exact ⟨j, by omega, by rw [getD_get (show j < l.length by omega)]; exact of_decide_eq_true h⟩
  · rintro ⟨j, hj, h⟩
    refine ⟨l.getD j 0, ?_, decide_eq_true h⟩
    rw [List.mem_iff_getElem]
    exact ⟨j, by rw [List.length_take]; omega, by rw [List.getElem_take, getD_get (by omega)]⟩
theorem dipR_iff {l : List Int} {i : Nat} : dipR l i = true ↔ ∃ k, i < k ∧ k < l.length ∧ l.getD k 0 < l.getD i 0 := by
  unfold dipR
  rw [List.any_eq_true]
  constructor
  · rintro ⟨y, hy, h⟩
    obtain ⟨j, hj, rfl⟩ := List.getElem_of_mem hy
    rw [List.length_drop] at hj
    rw [List.getElem_drop] at h
    exact ⟨i + 1 + j, by omega, by omega, by rw [getD_get (show i + 1 + j < l.length by omega)]; exact of_decide_eq_true h⟩
  · rintro ⟨k, hk, hl, h⟩
    refine ⟨l.getD k 0, ?_, decide_eq_true h⟩
    rw [List.mem_iff_getElem]
    refine ⟨k - (i + 1), by rw [List.length_drop]; omega, ?_⟩
    rw [List.getElem_drop, getD_get hl]
    congr 1
    omega
theorem dip_yes {line p : List Int} {i : Nat} (hi : i < line.length) (h1 : dipL (posL line p) i = true) (h2 : dipR (posL line p) i = true) : alongB line p = false := by
  have hl := posL_len line p
  obtain ⟨j, hj, hjl⟩ := (dipL_iff (by omega)).1 h1
  obtain ⟨k, hk, hkl, hkk⟩ := dipR_iff.1 h2
  rw [posL_at hi, posL_at (by omega)] at hjl hkk
  exact along_not hj hk (by omega) (decide_eq_true ⟨hjl, hkk⟩)
theorem dip_no {line p : List Int} (h : ∀ i, i < line.length → (dipL (posL line p) i && dipR (posL line p) i) = false) : alongB line p = true := by
  have hl := posL_len line p
  rw [along_iff]
  intro i j k a b c
  refine decide_eq_false fun ⟨h1, h2⟩ => ?_
  have := h j (by omega)
  rw [(dipL_iff (by omega)).2 ⟨i, a, by rw [posL_at (by omega), posL_at (by omega)]; exact h1⟩, dipR_iff.2 ⟨k, b, by omega, by rw [posL_at c, posL_at (by omega)]; exact h2⟩] at this
  cases this

/-- Each of the list as often as it is first. -/
def sprL (V : List (List Int)) : List Int → List Int
  | [] => []
  | x :: t => List.replicate (fst1 V x) x ++ sprL V t
theorem sprL_append (V : List (List Int)) (s t : List Int) : sprL V (s ++ t) = sprL V s ++ sprL V t := by
  induction s with
  | nil => rfl
  | cons x s ih => rw [List.cons_append, sprL, sprL, ih, List.append_assoc]
theorem sprL_snoc (V : List (List Int)) (s : List Int) (x : Int) : sprL V (s ++ [x]) = sprL V s ++ List.replicate (fst1 V x) x := by
  rw [sprL_append, sprL, sprL, List.append_nil]
theorem sprL_len (V : List (List Int)) (s : List Int) : (sprL V s).length = tot s (fst1 V) := by
  induction s with
  | nil => rfl
  | cons x s ih => rw [sprL, List.length_append, List.length_replicate, ih, tot_cons]
theorem spr_mid {V : List (List Int)} {N : Nat} : ∀ (t : List Int) (s : Nat), 2 * s < N → N ≤ 2 * (s + tot t (fst1 V)) → (sprL V t).getD ((N - 1) / 2 - s) 0 = midF V N s t := by
  intro t
  induction t with
  | nil => intro s h1 h2; rw [tot_nil] at h2; omega
  | cons x t ih =>
    intro s h1 h2
    rw [tot_cons] at h2
    rw [sprL, midF]
    by_cases q : N ≤ 2 * (s + fst1 V x)
    · rw [if_pos q, getD_get (by rw [List.length_append, List.length_replicate]; omega), List.getElem_append_left (by rw [List.length_replicate]; omega), List.getElem_replicate]
    · rw [if_neg q]
      have := ih (s + fst1 V x) (by omega) (by omega)
      rw [← this]
      have hl := sprL_len V t
      rw [getD_get (by rw [List.length_append, List.length_replicate]; omega), getD_get (by omega), List.getElem_append_right (by rw [List.length_replicate]; omega)]
      congr 1
      rw [List.length_replicate]
      omega
theorem spr_line {n : Nat} {line : List Int} {V : List (List Int)} (hl : line.Perm (sides n)) (h1 : 1 ≤ n) (hV : ∀ p ∈ V, p.Perm (sides n)) (hne : V.length ≠ 0) : (sprL V line).length = V.length ∧ (sprL V line).getD ((V.length - 1) / 2) 0 = midL line V := by
  have e : tot line (fst1 V) = V.length := by rw [tot_perm hl]; exact sum_firsts h1 hV
  refine ⟨by rw [sprL_len, e], ?_⟩
  have := spr_mid (V := V) (N := V.length) line 0 (by omega) (by omega)
  unfold midL
  rw [← this]
  rfl
end Fm

/-
  slices.IndexFunc and slices.ContainsFunc over a slice of ints, whatever the function is that they are handed, if it answers P and writes nothing that was there.
-/
import Derived.Test.YtimjepakdldacaaProg
import Derived.Test.YtimjepakdldacaaPureA
import Derived.WalkKit
import Derived.KernelRfl
import Derived.Laws.NewBlocks
namespace Go.Proofs.Ytimjepakdldacaa
open Go.RowKit Fm
set_option linter.unusedVariables false

/-- Function k has a body of its own. -/
def Enters (k : Nat) : Prop := ∀ (args : Array Value) (w : World), Sem.run Try.prog (callFunc k args) w = .ok (.enter k args) w
/-- The function of number k, with what it holds, answers P at the ints of l in every world that keeps what lies below B. -/
def Tells (k : Nat) (env : Array Value) (l : List Int) (P : Int → Bool) (w : World) : Prop :=
  ∀ x ∈ l, ∀ w1, Below w.heap.size w w1 → Calls Try.prog k (#[.int .i64 x] ++ env) w1 fun e w' => e = .returned (.bool (P x)) ∧ Below w1.heap.size w1 w'

set_option maxHeartbeats 400000 in
set_option maxRecDepth 100000 in
theorem indexFuncI_any (k : Nat) (hk : Enters k) (env : Array Value) (P : Int → Bool) (a : Option Addr) (m c : Nat) (l : List Int) (w : World) (B : Nat) (hB : B ≤ w.heap.size) (hr : Rd w B a m l) (hm : m ≤ 17592186044416) (hf : Tells k env l P w) :
    Calls Try.prog 66 #[.slice a m c, .func (.func k) #[] env] w fun e w' => ∃ r : Int, e = .returned (.int .i64 r) ∧ ((∀ x ∈ l, P x = false) → r = -1) ∧ (¬ (∀ x ∈ l, P x = false) → ∃ i : Nat, r = i ∧ i < m ∧ P (l.getD i 0) = true ∧ ∀ t, t < i → P (l.getD t 0) = false) ∧ Below w.heap.size w w' := by
  have HR := Lib.hid hr
  have HL := Lib.hid hr.1
  have HF := Lib.hid hf
  have HK : Hid (Enters k) := hk
  clear hr hf hk
  go_enter Try.func66, Try.ntmps66
  go_wp2
  go_loopw [8] (fun i wr => ∃ j : Nat, j ≤ m ∧ i = .int .i64 j ∧ (∀ t, t < j → P (l.getD t 0) = false) ∧ Below w.heap.size w wr) (fun i _ => m - (intOf i).toNat)
  case atStart => exact ⟨0, Nat.zero_le _, rfl, fun t ht => by omega, Below.refl _ _⟩
  case round =>
    obtain ⟨j, hj, rfl, hall, hbel⟩ := hrel
    have HA := Lib.hid hall
    clear hall
    have hz := hbel.size
    by_cases hlt : j < m
    · obtain ⟨b, o, rfl, hb, hcell⟩ := HR.out.at_ hlt
      have hck : wr.cell? ⟨b, o + j, none⟩ = some (.int .i64 (l.getD j 0)) := (hbel.cell (by show b < _; omega)).trans hcell
      have hjl : j < l.length := by rw [HL.out]; exact hlt
      have HMEM := Lib.hid (getD_mem l j hjl)
      have HCL := Lib.hid (HF.out _ HMEM.out wr hbel)
      have HA2 : Hid (P (l.getD j 0) = false → ∀ t, t < j + 1 → P (l.getD t 0) = false) := fun h t ht => by
        by_cases e : t = j
        · subst e; exact h
        · exact HA.out t (by omega)
      have HN2 : Hid (P (l.getD j 0) = true → (¬ ∀ x ∈ l, P x = false) ∧ ∃ i : Nat, (j : Int) = i ∧ i < m ∧ P (l.getD i 0) = true ∧ ∀ t, t < i → P (l.getD t 0) = false) := fun h => ⟨(fun hh => by
        have := hh _ HMEM.out
        rw [h] at this; cases this), j, rfl, hlt, h, HA.out⟩
      clear hcell HA
      generalize hp : P (l.getD j 0) = p at *
      clear hp
      generalize l.getD j 0 = x at *
      go_wp2_with fail
      rw [HK.out, Oper.upon_enter]
      refine HCL.out.mono ?_
      rintro e w1 ⟨rfl, hb1⟩
      have hb2 := hbel.trans (hb1.mono hz)
      clear hb1 hbel hck
      cases p with
      | false =>
        have HX := Lib.hid (HA2.out rfl)
        go_wp2
        go_roundw
        case rel => exact ⟨j + 1, by omega, by go_num, HX.out, hb2⟩
        case measure => simp [intOf]; omega
      | true =>
        have HX := Lib.hid (HN2.out rfl)
        go_wp2
        go_ret
        exact ⟨j, rfl, fun h => absurd h HX.out.1, fun _ => HX.out.2, hb2⟩
    · obtain rfl : j = m := by omega
      have hall : ∀ x ∈ l, P x = false := fun x hx => by
        obtain ⟨t, ht, rfl⟩ := List.getElem_of_mem hx
        have := HA.out t (by rw [← HL.out]; exact ht)
        rwa [getD_get ht] at this
      have HALL := Lib.hid hall
      clear hall
      go_wp2
      go_ret
      exact ⟨-1, rfl, fun _ => rfl, fun h => absurd HALL.out h, hbel⟩

set_option maxHeartbeats 400000 in
set_option maxRecDepth 100000 in
theorem containsFuncI_any (k : Nat) (hk : Enters k) (env : Array Value) (P : Int → Bool) (a : Option Addr) (m c : Nat) (l : List Int) (w : World) (B : Nat) (hB : B ≤ w.heap.size) (hr : Rd w B a m l) (hm : m ≤ 17592186044416) (hf : Tells k env l P w) :
    Calls Try.prog 52 #[.slice a m c, .func (.func k) #[] env] w fun e w' => e = .returned (.bool (l.any P)) ∧ Below w.heap.size w w' := by
  have HC := Lib.hid (indexFuncI_any k hk env P a m c l w B hB hr hm hf)
  have HT : Hid (l.any P = false → ∀ x ∈ l, P x = false) := fun h x hx => by
    rw [List.any_eq_false] at h
    have := h x hx
    simpa using this
  have HN : Hid (l.any P = true → ¬ ∀ x ∈ l, P x = false) := fun h hh => by
    rw [List.any_eq_true] at h
    obtain ⟨x, hx, hp⟩ := h
    rw [hh x hx] at hp; cases hp
  clear hr hf hk
  generalize l.any P = r at *
  go_enter Try.func52, Try.ntmps52
  go_wp2_with fail
  refine HC.out.mono ?_
  rintro e w1 ⟨i, rfl, h1, h2, hb⟩
  cases r with
  | false =>
    obtain rfl := h1 (HT.out rfl)
    clear h1 h2 HC
    go_wp2
    go_ret
    exact ⟨rfl, hb⟩
  | true =>
    obtain ⟨ii, rfl, _⟩ := h2 (HN.out rfl)
    clear h1 h2 HC
    go_wp2
    go_ret
    exact ⟨rfl, hb⟩
end Go.Proofs.Ytimjepakdldacaa

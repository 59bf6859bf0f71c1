/-
  slices.IndexFunc and slices.ContainsFunc over a slice of slices of ints, whatever the function is that they are handed, if it answers P and writes nothing that was there.
-/
import Derived.Test.YtkenbogkjoafjaaCFuncI
import Derived.Test.YtkenbogkjoafjaaPureA
namespace Go.Proofs.Ytkenbogkjoafjaa
open Go.RowKit Fm
set_option linter.unusedVariables false

/-- The function of number k, with what it holds, answers P at the rows of L in every world that keeps what was there. -/
def TellsR (k : Nat) (env : Array Value) (L : List (List Int)) (P : List Int → Bool) (w : World) (B : Nat) : Prop :=
  ∀ l ∈ L, ∀ (a' : Option Addr) (c' : Nat) (w1 : World), Below w.heap.size w w1 → Rd w1 B a' l.length l → Calls Try.prog k (#[.slice a' l.length c'] ++ env) w1 fun e w' => e = .returned (.bool (P l)) ∧ Below w1.heap.size w1 w'

set_option maxHeartbeats 400000 in
set_option maxRecDepth 100000 in
theorem indexFuncR_any (k : Nat) (hk : Enters k) (env : Array Value) (P : List Int → Bool) (a : Option Addr) (m c : Nat) (L : List (List Int)) (w : World) (B : Nat) (hB : B ≤ w.heap.size) (hr : RdR w B a m L) (hm : m ≤ 17592186044416) (hf : TellsR k env L P w B) :
    Calls Try.prog 34 #[.slice a m c, .func (.func k) #[] env] w fun e w' => ∃ r : Int, e = .returned (.int .i64 r) ∧ ((∀ x ∈ L, P x = false) → r = -1) ∧ (¬ (∀ x ∈ L, P x = false) → ∃ i : Nat, r = i ∧ i < m ∧ P (L.getD i []) = true ∧ ∀ t, t < i → P (L.getD t []) = false) ∧ Below w.heap.size w w' := by
  have HR := Lib.hid hr
  have HL := Lib.hid hr.1
  have HF := Lib.hid hf
  have HK : Hid (Enters k) := hk
  clear hr hf hk
  go_enter Try.func34, Try.ntmps34
  go_wp2
  go_loopw [8] (fun i wr => ∃ j : Nat, j ≤ m ∧ i = .int .i64 j ∧ (∀ t, t < j → P (L.getD t []) = false) ∧ Below w.heap.size w wr) (fun i _ => m - (intOf i).toNat)
  case atStart => exact ⟨0, Nat.zero_le _, rfl, fun t ht => by omega, Below.refl _ _⟩
  case round =>
    obtain ⟨j, hj, rfl, hall, hbel⟩ := hrel
    have HA := Lib.hid hall
    clear hall
    have hz := hbel.size
    by_cases hlt : j < m
    · obtain ⟨b, o, a', c', rfl, hb, hcell, _, _, _, hrd⟩ := HR.out.at_ hlt
      have hck : wr.cell? ⟨b, o + j, none⟩ = some (.slice a' (L.getD j []).length c') := (hbel.cell (by show b < _; omega)).trans hcell
      have hjl : j < L.length := by rw [HL.out]; exact hlt
      have hmem : L.getD j [] ∈ L := by rw [List.getD_eq_getElem?_getD, List.getElem?_eq_getElem hjl]; exact List.getElem_mem hjl
      have HMEM := Lib.hid hmem
      have HCL := Lib.hid (HF.out _ hmem a' c' wr hbel (hrd.below hbel hB))
      have HA2 : Hid (P (L.getD j []) = false → ∀ t, t < j + 1 → P (L.getD t []) = false) := fun h t ht => by
        by_cases e : t = j
        · subst e; exact h
        · exact HA.out t (by omega)
      have HN2 : Hid (P (L.getD j []) = true → (¬ ∀ x ∈ L, P x = false) ∧ ∃ i : Nat, (j : Int) = i ∧ i < m ∧ P (L.getD i []) = true ∧ ∀ t, t < i → P (L.getD t []) = false) := fun h => ⟨(fun hh => by
        have := hh _ HMEM.out
        rw [h] at this; cases this), j, rfl, hlt, h, HA.out⟩
      clear hcell HA hrd hmem
      generalize hp : P (L.getD j []) = p at *
      clear hp
      generalize (L.getD j []).length = ln at *
      go_wp2_with fail
      rw [HK.out, Oper.upon_enter]
      refine HCL.out.mono ?_
      rintro e w1 ⟨rfl, hb1⟩
      have hb2 := hbel.trans (hb1.mono hz)
      clear hb1 hbel hck
      cases p with
      | false =>
        have HX := Lib.hid (HA2.out rfl)
        go_wp2
        go_roundw
        case rel => exact ⟨j + 1, by omega, by go_num, HX.out, hb2⟩
        case measure => simp [intOf]; omega
      | true =>
        have HX := Lib.hid (HN2.out rfl)
        go_wp2
        go_ret
        exact ⟨j, rfl, fun h => absurd h HX.out.1, fun _ => HX.out.2, hb2⟩
    · obtain rfl : j = m := by omega
      have hall : ∀ x ∈ L, P x = false := fun x hx => by
        obtain ⟨t, ht, rfl⟩ := List.getElem_of_mem hx
        have := HA.out t (by rw [← HL.out]; exact ht)
        rwa [List.getD_eq_getElem?_getD, List.getElem?_eq_getElem ht] at this
      have HALL := Lib.hid hall
      clear hall
      go_wp2
      go_ret
      exact ⟨-1, rfl, fun _ => rfl, fun h => absurd HALL.out h, hbel⟩

set_option maxHeartbeats 400000 in
set_option maxRecDepth 100000 in
theorem containsFuncR_any (k : Nat) (hk : Enters k) (env : Array Value) (P : List Int → Bool) (a : Option Addr) (m c : Nat) (L : List (List Int)) (w : World) (B : Nat) (hB : B ≤ w.heap.size) (hr : RdR w B a m L) (hm : m ≤ 17592186044416) (hf : TellsR k env L P w B) :
    Calls Try.prog 25 #[.slice a m c, .func (.func k) #[] env] w fun e w' => e = .returned (.bool (L.any P)) ∧ Below w.heap.size w w' := by
  have HC := Lib.hid (indexFuncR_any k hk env P a m c L w B hB hr hm hf)
  have HT : Hid (L.any P = false → ∀ x ∈ L, P x = false) := fun h x hx => by
    rw [List.any_eq_false] at h
    have := h x hx
    simpa using this
  have HN : Hid (L.any P = true → ¬ ∀ x ∈ L, P x = false) := fun h hh => by
    rw [List.any_eq_true] at h
    obtain ⟨x, hx, hp⟩ := h
    rw [hh x hx] at hp; cases hp
  clear hr hf hk
  generalize L.any P = r at *
  go_enter Try.func25, Try.ntmps25
  go_wp2_with fail
  refine HC.out.mono ?_
  rintro e w1 ⟨i, rfl, h1, h2, hb⟩
  cases r with
  | false =>
    obtain rfl := h1 (HT.out rfl)
    clear h1 h2 HC
    go_wp2
    go_ret
    exact ⟨rfl, hb⟩
  | true =>
    obtain ⟨ii, rfl, _⟩ := h2 (HN.out rfl)
    clear h1 h2 HC
    go_wp2
    go_ret
    exact ⟨rfl, hb⟩
end Go.Proofs.Ytkenbogkjoafjaa

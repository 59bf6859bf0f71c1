/-
  order.Check answers chk, for every int and every slice of ints; nothing that was there is written.
-/
import Derived.Test.YthcaipnlgbnfkaaProg
import Derived.Test.YthcaipnlgbnfkaaPureA
import Derived.WalkKit
import Derived.KernelRfl
import Derived.Laws.NewBlocks
namespace Go.Proofs.Ythcaipnlgbnfkaa
open Go.RowKit Fm
set_option linter.unusedVariables false

/-- The marks of the alternatives that stand in t. -/
def seen (t : List Int) : Array Value := #[.bool (decide ((0 : Int) ∈ t)), .bool (decide ((1 : Int) ∈ t)), .bool (decide ((2 : Int) ∈ t)), .bool (decide ((3 : Int) ∈ t)), .bool (decide ((4 : Int) ∈ t)), .bool (decide ((5 : Int) ∈ t))]

theorem seen_at (t : List Int) {i : Nat} (h : i < 6) : (seen t)[i]? = some (.bool (decide ((i : Int) ∈ t))) := by
  match i, h with
  | 0, _ => rfl
  | 1, _ => rfl
  | 2, _ => rfl
  | 3, _ => rfl
  | 4, _ => rfl
  | 5, _ => rfl
theorem seen_true {t : List Int} {i : Nat} (h : i < 6) (hi : (i : Int) ∈ t) : (seen t)[i]? = some (.bool true) := by rw [seen_at t h]; simp [hi]
theorem seen_false {t : List Int} {i : Nat} (h : i < 6) (hi : (i : Int) ∉ t) : (seen t)[i]? = some (.bool false) := by rw [seen_at t h]; simp [hi]
theorem seen_size (t : List Int) : (seen t).size = 6 := rfl
theorem seen_set (t : List Int) (i : Nat) : (seen t).setIfInBounds i (.bool true) = seen (t ++ [(i : Int)]) := by
  apply Array.ext
  · simp [seen_size]
  · intro j h1 h2
    have hj : j < 6 := by simpa [seen_size] using h1
    have e := seen_at (t ++ [(i : Int)]) hj
    have f := seen_at t hj
    rw [Array.getElem?_eq_getElem h2] at e
    injection e with e
    rw [e, Array.getElem_setIfInBounds (by rw [seen_size]; exact hj)]
    split
    · rename_i he; subst he; simp
    · rename_i hne
      have hne' : ¬ (j : Int) = (i : Int) := by omega
      rw [Array.getElem?_eq_getElem (by rw [seen_size]; exact hj)] at f
      injection f with f
      rw [f]
      simp [hne']

set_option maxHeartbeats 400000 in
set_option maxRecDepth 100000 in
theorem check_arg (n : Int) (a : Option Addr) (k c : Nat) (w : World) (hn : n < 1 ∨ 6 < n) :
    Calls Try.prog 52 #[.int .i64 n, .slice a k c] w fun e w' => e = .returned (.int .i64 1) ∧ w = w' := by
  rcases hn with hn | hn
  · go_enter Try.func52, Try.ntmps52
    go_wp2
    go_ret
    exact ⟨rfl, rfl⟩
  · have h1 : ¬ n < 1 := by omega
    go_enter Try.func52, Try.ntmps52
    go_wp2
    go_ret
    exact ⟨rfl, rfl⟩

set_option maxHeartbeats 400000 in
set_option maxRecDepth 100000 in
theorem check_len (n : Int) (a : Option Addr) (k c : Nat) (w : World) (h1 : ¬ n < 1) (h2 : ¬ 6 < n) (hk : (k : Int) ≠ n) :
    Calls Try.prog 52 #[.int .i64 n, .slice a k c] w fun e w' => e = .returned (.int .i64 3) ∧ w = w' := by
  have hb : ((k : Int) != n) = true := by simpa using hk
  clear hk
  go_enter Try.func52, Try.ntmps52
  go_wp2
  go_ret
  exact ⟨rfl, rfl⟩

set_option maxHeartbeats 400000 in
set_option maxRecDepth 100000 in
theorem check_go (a : Option Addr) (k c : Nat) (l : List Int) (w : World) (B : Nat) (hB : B ≤ w.heap.size) (h1 : 1 ≤ k) (h2 : k ≤ 6) (hr : Rd w B a k l) (r : Int) (hres : r = if isOrd k l then 0 else 3) :
    Calls Try.prog 52 #[.int .i64 k, .slice a k c] w fun e w' => e = .returned (.int .i64 r) ∧ Below w.heap.size w w' := by
  have HR := Lib.hid hres
  clear hres
  have bel : ∀ t, Below w.heap.size w (w.alloc (.cells (seen t) 91)) := fun t => (Below.refl _ _).alloc (Nat.le_refl _) _
  obtain ⟨hl, hr⟩ := hr
  obtain ⟨b, o, rfl, hb, hc⟩ := hr (by omega)
  have HL := Lib.hid hl
  have HC := Lib.hid hc
  clear hl hc hr
  go_enter Try.func52, Try.ntmps52
  go_wp2
  go_loopw [20] (fun i wr => ∃ j : Nat, j ≤ k ∧ i = .int .i64 j ∧ wr = w.alloc (.cells (seen (l.take j)) 91) ∧ isOrd k (l.take j)) (fun i _ => k - (intOf i).toNat)
  case atStart => exact ⟨0, Nat.zero_le _, rfl, rfl, by simp [isOrd]⟩
  case round =>
    obtain ⟨j, hj, rfl, rfl, ho⟩ := hrel
    have HO := Lib.hid ho
    clear ho
    by_cases hlt : j < k
    · have hcj : ∀ ob, (w.alloc ob).cell? ⟨b, o + j, none⟩ = some (.int .i64 (l.getD j 0)) := fun ob => (World.cell?_alloc_lt w ob ⟨b, o + j, none⟩ (by show b < _; omega)).trans (HC.out j hlt)
      have hs : l.take (j + 1) = l.take j ++ [l.getD j 0] := take_succ_getD l j (by rw [HL.out]; exact hlt)
      have HS := Lib.hid hs
      clear hs
      have hbw : ¬ b = w.heap.size := by omega
      generalize hx : l.getD j 0 = x at *
      have HX := Lib.hid hx
      clear hx
      by_cases hneg : x < 0
      · have hno : r = 3 := by
          rw [HR.out, if_neg (fun h => ?_)]
          have := isOrd_take (j + 1) h
          rw [HS.out, isOrd_snoc] at this
          omega
        have HN := Lib.hid hno
        clear hno
        go_wp2
        go_ret
        exact ⟨by rw [HN.out]; rfl, bel _⟩
      · by_cases hbig : (k : Int) ≤ x
        · have hno : r = 3 := by
            rw [HR.out, if_neg (fun h => ?_)]
            have := isOrd_take (j + 1) h
            rw [HS.out, isOrd_snoc] at this
            omega
          have HN := Lib.hid hno
          clear hno
          go_wp2
          go_ret
          exact ⟨by rw [HN.out]; rfl, bel _⟩
        · obtain ⟨i, rfl⟩ : ∃ i : Nat, x = i := ⟨x.toNat, by omega⟩
          have hi6 : i < 6 := by omega
          by_cases hin : (i : Int) ∈ l.take j
          · have hse : (seen (l.take j))[i]? = some (.bool true) := seen_true hi6 hin
            have hno : r = 3 := by
              rw [HR.out, if_neg (fun h => ?_)]
              have := isOrd_take (j + 1) h
              rw [HS.out, isOrd_snoc] at this
              exact this.2.2.2 hin
            have HN := Lib.hid hno
            clear hno hin
            go_wp2
            go_ret
            exact ⟨by rw [HN.out]; rfl, bel _⟩
          · have hse : (seen (l.take j))[i]? = some (.bool false) := seen_false hi6 hin
            have HI := Lib.hid hin
            clear hin
            go_wp2
            go_roundw
            case rel => exact ⟨j + 1, by omega, by go_num, by rw [HS.out, ← seen_set], by rw [HS.out, isOrd_snoc]; exact ⟨HO.out, by omega, by omega, HI.out⟩⟩
            case measure => simp [intOf]; omega
    · have hno : r = 0 := by
        rw [HR.out, if_pos]
        have := HO.out
        rwa [List.take_of_length_le (by rw [HL.out]; omega)] at this
      have HN := Lib.hid hno
      clear hno
      go_wp2
      go_ret
      exact ⟨by rw [HN.out]; rfl, bel _⟩

/-- order.Check, for every int and every slice. -/
theorem check_any (n : Int) (a : Option Addr) (k c : Nat) (l : List Int) (w : World) (B : Nat) (hB : B ≤ w.heap.size) (hr : Rd w B a k l) :
    Calls Try.prog 52 #[.int .i64 n, .slice a k c] w fun e w' => e = .returned (.int .i64 (chk n l)) ∧ Below w.heap.size w w' := by
  by_cases h : n < 1 ∨ 6 < n
  · rw [chk_arg h]
    exact (check_arg n a k c w h).mono fun e w' ⟨he, hw⟩ => ⟨he, hw ▸ Below.refl _ _⟩
  · by_cases hl : (k : Int) = n
    · subst hl
      refine (check_go a k c l w B hB (by omega) (by omega) hr _ rfl).mono fun e w' ⟨he, hw⟩ => ⟨?_, hw⟩
      rw [he]
      by_cases hb : isOrd k l
      · rw [if_pos hb, chk_ok h (by rw [hr.1]) hb]
      · rw [if_neg hb, chk_bad h (by rw [hr.1]) hb]
    · rw [chk_len h (by rw [hr.1]; exact hl)]
      exact (check_len n a k c w (by omega) (by omega) hl).mono fun e w' ⟨he, hw⟩ => ⟨he, hw ▸ Below.refl _ _⟩
end Go.Proofs.Ythcaipnlgbnfkaa

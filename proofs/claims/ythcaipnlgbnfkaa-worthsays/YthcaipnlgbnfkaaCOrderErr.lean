/-
  plumeref.OrderErr answers chk, for every int and every slice of ints that a machine can hold; nothing that was there is written.
-/
import Derived.Test.YthcaipnlgbnfkaaCClone
import Derived.Test.YthcaipnlgbnfkaaCSort
import Derived.WalkKit
import Derived.KernelRfl
import Derived.Laws.NewBlocks
namespace Go.Proofs.Ythcaipnlgbnfkaa
open Go.RowKit Fm
set_option linter.unusedVariables false

set_option maxHeartbeats 400000 in
set_option maxRecDepth 100000 in
theorem orderErr_arg (n : Int) (a : Option Addr) (k c : Nat) (w : World) (hn : n < 1 ∨ 6 < n) :
    Calls Try.prog 23 #[.int .i64 n, .slice a k c] w fun e w' => e = .returned (.int .i64 1) ∧ w = w' := by
  rcases hn with hn | hn
  · go_enter Try.func23, Try.ntmps23
    go_wp2
    go_ret
    exact ⟨rfl, rfl⟩
  · have h1 : ¬ n < 1 := by omega
    go_enter Try.func23, Try.ntmps23
    go_wp2
    go_ret
    exact ⟨rfl, rfl⟩

set_option maxHeartbeats 1000000 in
set_option maxRecDepth 100000 in
theorem orderErr_go (n : Int) (a : Option Addr) (m c : Nat) (p : List Int) (w : World) (B : Nat) (hB : B ≤ w.heap.size) (hr : Rd w B a m p) (hm8 : m * 8 ≤ 140737488355328) (h1 : ¬ n < 1) (h6 : ¬ 6 < n) (r : Int) (hres : chk n p = r) :
    Calls Try.prog 23 #[.int .i64 n, .slice a m c] w fun e w' => e = .returned (.int .i64 r) ∧ Below w.heap.size w w' := by
  have HRES := Lib.hid hres
  have HL := Lib.hid hr.1
  clear hres
  go_enter Try.func23, Try.ntmps23
  go_wp2_with fail
  refine (clone_any p a m c w B hr hm8).mono ?_
  rintro e w1 ⟨v, rfl, o1, hb1⟩
  have z1 := hb1.size
  clear hr
  by_cases hm0 : m = 0
  · subst hm0
    obtain ⟨a1, c1, rfl, _, _⟩ := own_slice o1
    have hr3 : r = 3 := by
      rw [← HRES.out]
      exact chk_len (by omega) (by rw [HL.out]; omega)
    subst hr3
    have hne : ((0 : Int) != n) = true := by simp; omega
    clear HRES o1
    go_wp2_with fail
    refine (Try.slices_Sort_int_none a1 c1 w1).mono ?_
    rintro e w2 ⟨rfl, rfl⟩
    go_wp2
    go_ret
    exact ⟨rfl, hb1⟩
  · obtain ⟨g, cap, rfl, hg1, hg2, hnc, hcm, _⟩ := own_form o1 (by omega)
    go_wp2_with fail
    refine (sort_own w.heap.size g m cap p w1 o1 (by omega)).mono ?_
    rintro e w2 ⟨rfl, o2, g2⟩
    have hb2 : Below w.heap.size w w2 := hb1.grown g2 z1 (fun j hj => by injection hj with hj; omega)
    have HC := Lib.hid (own_cell o2)
    have HSL := Lib.hid (sorted_len p)
    clear o1 o2 g2 hb1
    by_cases hmn : (m : Int) = n
    · subst hmn
      have hP : Hid (isOrd m p ↔ sorted p = sides m) := ⟨fun h => sorted_sides.2 ((isOrd_iff HL.out).1 h), fun h => (isOrd_iff HL.out).2 (sorted_sides.1 h)⟩
      go_wp2_with fail
      go_loop [24] (fun i => ∃ j : Nat, j ≤ m ∧ i = .int .i64 j ∧ ∀ t, t < j → (sorted p).getD t 0 = t) (fun i => m - (intOf i).toNat)
      case atStart => exact ⟨0, Nat.zero_le _, rfl, fun t ht => by omega⟩
      case round =>
        obtain ⟨j, hj, rfl, hall⟩ := hrel
        have HA := Lib.hid hall
        clear hall
        by_cases hlt : j < m
        · have cj := HC.out j hlt
          by_cases hx : (sorted p).getD j 0 = j
          · rw [hx] at cj
            have HX := Lib.hid hx
            clear hx
            go_wp2
            go_round
            case rel => exact ⟨j + 1, by omega, by go_num, fun t ht => by
              by_cases e : t = j
              · subst e; exact HX.out
              · exact HA.out t (by omega)⟩
            case measure => simp [intOf]; omega
          · have hr3 : r = 3 := by
              rw [← HRES.out]
              refine chk_bad (by omega) (by rw [HL.out]) (fun h => hx ?_)
              rw [hP.out.1 h, sides_getD hlt]
            subst hr3
            have hne : ((j : Int) != (sorted p).getD j 0) = true := by simp only [bne_iff_ne, ne_eq]; exact fun e => hx e.symm
            clear HRES hx
            generalize (sorted p).getD j 0 = x at *
            go_wp2
            go_ret
            exact ⟨rfl, hb2⟩
        · obtain rfl : j = m := by omega
          have hr0 : r = 0 := by
            rw [← HRES.out]
            exact chk_ok (by omega) (by rw [HL.out]) (hP.out.2 (eq_sides (by rw [HSL.out, HL.out]) HA.out))
          subst hr0
          clear HRES
          go_wp2
          go_ret
          exact ⟨rfl, hb2⟩
    · have hr3 : r = 3 := by
        rw [← HRES.out]
        exact chk_len (by omega) (by rw [HL.out]; exact hmn)
      subst hr3
      have hne : ((m : Int) != n) = true := by simpa using hmn
      clear HRES hmn
      go_wp2
      go_ret
      exact ⟨rfl, hb2⟩

theorem orderErr_any (n : Int) (a : Option Addr) (m c : Nat) (p : List Int) (w : World) (B : Nat) (hB : B ≤ w.heap.size) (hr : Rd w B a m p) (hm8 : m * 8 ≤ 140737488355328) :
    Calls Try.prog 23 #[.int .i64 n, .slice a m c] w fun e w' => e = .returned (.int .i64 (chk n p)) ∧ Below w.heap.size w w' := by
  by_cases h : n < 1 ∨ 6 < n
  · rw [chk_arg h]
    exact (orderErr_arg n a m c w h).mono fun e w' ⟨he, hw⟩ => ⟨he, hw ▸ Below.refl _ _⟩
  · exact orderErr_go n a m c p w B hB hr hm8 (by omega) (by omega) _ rfl
end Go.Proofs.Ythcaipnlgbnfkaa

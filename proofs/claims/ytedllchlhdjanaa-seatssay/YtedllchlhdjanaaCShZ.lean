/-
  plumeref.SharesOf with divisors, at people that are right and no seat: a row of zeros of its own; nothing that was there is written.
-/
import Derived.Test.YtedllchlhdjanaaCShD
namespace Go.Proofs.Ytedllchlhdjanaa
open Go.Shelf Go.RowKit Go.Lib Go.Sort Fm
set_option linter.unusedVariables false

set_option maxHeartbeats 4000000 in
set_option maxRecDepth 100000 in
theorem sharesZ_any {P : List Int} (p : Ppl P) {n : Nat} (hn : P.length = n) (wy : Nat) (hw1 : 1 ≤ wy) (hw2 : wy ≤ 2) (a : Option Addr) (c : Nat) (w : World) (hr : Rd w w.heap.size a n P) :
    Calls Try.prog 13 #[.int .i64 wy, .slice a n c, .int .i64 0] w (ShOf (fun _ => 0) n w) := by
  have n1 := p.pos
  have n8 := p.le
  rw [hn] at n1 n8
  have HX : Hid (∀ i, i < n → P.getD i 0 = (xs P i : Int) ∧ xs P i ≤ 1000000) := fun i hi => p.at_ (by rw [hn]; exact hi)
  have hmk : ∀ W : World, (Instr.makeSlice 22 (.int .i64 n) (.int .i64 n)).run Try.prog W = .ok (.slice (some ⟨W.heap.size, 0, none⟩) n n) (W.alloc (.cells (zeros n) 3)) := make_ints n (by omega)
  have own0 := own_lit w 3 (List.replicate n 0) (zeros n) rfl (by unfold maxLen; simp; omega)
  rw [List.length_replicate, natL_zero n] at own0
  have hb0 : Below w.heap.size w (w.alloc (.cells (zeros n) 3)) := (Below.refl _ w).alloc (Nat.le_refl _) _
  have HR := Lib.hid hr
  have e3 : ((wy : Int) == 3) = false := beq_eq_false_iff_ne.2 (by omega)
  clear hr p hn
  go_enter Try.func13, Try.ntmps13
  go_wp2_with fail
  clear hmk
  generalize w.alloc (.cells (zeros n) 3) = w1 at *
  obtain ⟨ga, hga⟩ : ∃ ga, ga = w.heap.size := ⟨_, rfl⟩
  have oa0 : w1.ownsRow w.heap.size 3 1 (.slice (some ⟨ga, 0, none⟩) n n) n (I (natL n (fun _ => 0))) := by rw [hga]; exact own0
  rw [← hga]
  clear own0 hga
  go_loop [8, 25] (fun sv iv => ∃ (k : Nat) (s : Int), k ≤ n ∧ iv = .int .i64 k ∧ sv = .int .i64 s ∧ 0 ≤ s ∧ s ≤ 1000000 * (k : Int)) (fun _ iv => n - (intOf iv).toNat)
  case atStart => exact ⟨0, 0, Nat.zero_le _, rfl, rfl, by omega, by omega⟩
  case round =>
    obtain ⟨k, s, hk, rfl, rfl, s1, s2⟩ := hrel
    by_cases hkn : k < n
    · obtain ⟨b, o, rfl, hb, hcell⟩ := HR.out.at_ hkn
      obtain ⟨x1, x2⟩ := HX.out k hkn
      rw [x1] at hcell
      have ck : w1.cell? ⟨b, o + k, none⟩ = some (.int .i64 (xs P k : Int)) := (hb0.cell (by show b < _; omega)).trans hcell
      clear hcell x1
      generalize xs P k = xk at *
      go_wp2
      go_round
      case rel => exact ⟨k + 1, s + xk, by omega, by go_num, rfl, by omega, by omega⟩
      case measure => simp [intOf]; omega
    · obtain rfl : k = n := by omega
      clear s1 s2
      go_wp2_with fail
      go_loop [11, 35] (fun lv iv => ∃ i : Nat, i ≤ k ∧ iv = .int .i64 i ∧ lv = .slice none 0 0) (fun _ iv => k - (intOf iv).toNat)
      case atStart => exact ⟨0, Nat.zero_le _, rfl, rfl⟩
      case round =>
        obtain ⟨i, hi, rfl, rfl⟩ := hrel
        by_cases hik : i < k
        · obtain ⟨b, o, rfl, hb, hcell⟩ := HR.out.at_ hik
          obtain ⟨x1, x2⟩ := HX.out i hik
          rw [x1] at hcell
          have ck : w1.cell? ⟨b, o + i, none⟩ = some (.int .i64 (xs P i : Int)) := (hb0.cell (by show b < _; omega)).trans hcell
          clear hcell x1
          generalize xs P i = xi at *
          go_wp2_with fail
          clear ck
          go_loop [11, 66] (fun lv jv => jv = .int .i64 0 ∧ lv = .slice none 0 0) (fun _ _ => 0)
          case atStart => exact ⟨rfl, rfl⟩
          case round =>
            obtain ⟨rfl, rfl⟩ := hrel
            go_wp2
            go_round
            case rel => exact ⟨i + 1, by omega, by go_num, rfl⟩
            case measure => simp [intOf]; omega
        · obtain rfl : i = k := by omega
          go_wp2_with fail
          refine (sortP_nil w1).mono ?_
          rintro e w3 ⟨rfl, rfl⟩
          go_wp2_with fail
          go_loop [15, 86] (fun sv iv => ∃ t : Nat, t ≤ i ∧ iv = .int .i64 t ∧ sv = .int .i64 0) (fun _ iv => i - (intOf iv).toNat)
          case atStart => exact ⟨0, Nat.zero_le _, rfl, rfl⟩
          case round =>
            obtain ⟨t, ht, rfl, rfl⟩ := hrel
            by_cases hti : t < i
            · have ck := own_cell oa0 t hti
              rw [natL_at i _ hti] at ck
              go_wp2
              go_round
              case rel => exact ⟨t + 1, by omega, by go_num, by first | rfl | (congr 1; omega)⟩
              case measure => simp [intOf]; omega
            · obtain rfl : t = i := by omega
              go_wp2_with fail
              go_loop [98] (fun iv => iv = .int .i64 0) (fun _ => 0)
              case atStart => rfl
              case round =>
                subst hrel
                go_wp2
                go_ret
                exact ⟨_, rfl, oa0, hb0⟩
end Go.Proofs.Ytedllchlhdjanaa

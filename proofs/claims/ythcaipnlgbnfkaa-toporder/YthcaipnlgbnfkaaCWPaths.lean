/-
  widest.Paths: at a right table the strengths of the strongest paths, in rows of its own; the error of duel.Check else; nothing that was there is written.
-/
import Derived.Test.YthcaipnlgbnfkaaM3
import Derived.Test.YthcaipnlgbnfkaaCDCheck
import Derived.Test.YthcaipnlgbnfkaaCWSteps
namespace Go.Proofs.Ythcaipnlgbnfkaa
open Go.RowKit Fm
set_option linter.unusedVariables false

theorem wpathsE_nil (a : Option Addr) (m c : Nat) (M : List (List Int)) (w : World) (ti : TabIn w a m M) (ht : tchk M ≠ 0) :
    Calls Try.prog 74 #[.slice a m c] w (ErrNil (tchk M) w) := by
  obtain ⟨B, hB, hr, hm, h8⟩ := ti
  have HC := Lib.hid (dcheck_any a m c M w B hB hr hm h8)
  have hne : (tchk M != 0) = true := by simpa using ht
  clear ht hr h8
  generalize tchk M = r at *
  go_enter Try.func74, Try.ntmps74
  go_wp2_with fail
  refine HC.out.mono ?_
  rintro e w1 ⟨rfl, rfl⟩
  clear HC
  go_wp2
  go_ret2
  exact ⟨rfl, Below.refl _ w⟩
theorem wPathsE : WPathsE := fun a m c M w ti ht => (wpathsE_nil a m c M w ti ht).mono fun _ _ h => h.out

set_option maxHeartbeats 2000000 in
set_option maxRecDepth 100000 in
theorem wpaths_own (a : Option Addr) (m c : Nat) (M : List (List Int)) (w : World) (ti : TabIn w a m M) (ht : tchk M = 0) :
    Calls Try.prog 74 #[.slice a m c] w (MatOwn (pathM m M) w) := by
  obtain ⟨B, hB, hr, hm, h8⟩ := ti
  have HC := Lib.hid (dcheck_any a m c M w B hB hr hm h8)
  rw [ht] at HC
  have T := tab_of ht
  have hlen := hr.1
  rw [hlen] at T
  obtain ⟨n, rfl⟩ : ∃ n, n = m := ⟨_, rfl⟩
  have h1 := T.pos
  have h6 := T.six
  have HS := Lib.hid (steps_any T a c B w hB hr)
  have HEND := Lib.hid (fwM_end T)
  have HROW : Hid (∀ k x y b, fwT M k x y (k : Nat) (b : Nat) = fw M k k b) := fun k x y b => fwT_row T k x y b
  have HCOL : Hid (∀ k x y a, fwT M k x y (a : Nat) (k : Nat) = fw M k a k) := fun k x y a => fwT_col T k x y a
  clear hr h8 ht T hlen hm
  go_enter Try.func74, Try.ntmps74
  go_wp2_with fail
  refine HC.out.mono ?_
  rintro e w1 ⟨rfl, rfl⟩
  clear HC
  go_wp2_with fail
  refine HS.out.mono ?_
  rintro e w2 ⟨v, rfl, hm0, hb0⟩
  clear HS
  obtain ⟨g, cap, rfl, hg0, _, hcap, hcapm⟩ := hm0.form (by rw [fwM_len]; omega)
  rw [fwM_len] at hm0 hcap ⊢
  unfold maxLen at hcapm
  go_wp2_with fail
  go_loopw [18] (fun i wr => ∃ k : Nat, k ≤ n ∧ i = .int .i64 k ∧ Mat wr w.heap.size 22 3 (.slice (some ⟨g, 0, none⟩) n cap) (fwM n M k) ∧ Below w.heap.size w wr) (fun i _ => n - (intOf i).toNat)
  case atStart => exact ⟨0, Nat.zero_le _, rfl, hm0, hb0⟩
  case round =>
    obtain ⟨k, hk, rfl, hm1, hb1⟩ := hrel
    clear hm0 hb0
    by_cases hkn : k < n
    · rw [fwTo_zero] at hm1
      obtain ⟨wo, rfl⟩ : ∃ wo, wo = wr := ⟨_, rfl⟩
      go_wp2_with fail
      go_loopw [23] (fun i wr => ∃ x : Nat, x ≤ n ∧ i = .int .i64 x ∧ Mat wr w.heap.size 22 3 (.slice (some ⟨g, 0, none⟩) n cap) (fwTo n M k x 0) ∧ Below w.heap.size w wr) (fun i _ => n - (intOf i).toNat)
      case atStart => exact ⟨0, Nat.zero_le _, rfl, hm1, hb1⟩
      case round =>
        obtain ⟨x, hx, rfl, hm2, hb2⟩ := hrel
        clear hm1 hb1
        by_cases hxn : x < n
        · obtain ⟨wp, rfl⟩ : ∃ wp, wp = wr := ⟨_, rfl⟩
          go_wp2_with fail
          go_loopw [28] (fun i wr => ∃ y : Nat, y ≤ n ∧ i = .int .i64 y ∧ Mat wr w.heap.size 22 3 (.slice (some ⟨g, 0, none⟩) n cap) (fwTo n M k x y) ∧ Below w.heap.size w wr) (fun i _ => n - (intOf i).toNat)
          case atStart => exact ⟨0, Nat.zero_le _, rfl, hm2, hb2⟩
          case round =>
            obtain ⟨y, hy, rfl, hm3, hb3⟩ := hrel
            clear hm2 hb2
            by_cases hyn : y < n
            · by_cases hxy : x = y
              · have hne : ((x : Int) != (y : Int)) = false := by subst hxy; simp
                have m4 : Mat wr w.heap.size 22 3 (.slice (some ⟨g, 0, none⟩) n cap) (fwTo n M k x (y + 1)) := by subst hxy; rw [← fwTo_skip]; exact hm3
                clear hm3 hxy
                go_wp2
                go_roundw
                case rel => exact ⟨y + 1, by omega, by go_num, m4, hb3⟩
                case measure => simp [intOf]; omega
              · have hne : ((x : Int) != (y : Int)) = true := by simp; omega
                have hz := hb3.size
                have hml : (fwTo n M k x y).length = n := fwTo_len k x y
                have hrow : ∀ z, z < n → (fwTo n M k x y).getD z [] = fnL n (fwT M k x y z) := fun z hz => fnM_at n _ hz
                obtain ⟨u, hcu, hfu, hou⟩ := hm3.row hml hxn
                rw [hrow x hxn, fnL_len] at hou
                obtain ⟨g', cap', rfl, hg1, hg2, hnc, hcm2, hcells⟩ := own_form hou (by omega)
                have hcv := hcells y hyn
                have hck := hcells k hkn
                rw [fnL_at n _ hyn, fwT_at] at hcv
                rw [fnL_at n _ hkn, HCOL.out] at hck
                have hfv := hou.frozenAt y
                unfold maxLen at hcm2
                obtain ⟨u2, hcu2, _, hou2⟩ := hm3.row hml hkn
                rw [hrow k hkn, fnL_len] at hou2
                obtain ⟨g2, cap2, rfl, hg12, hg22, hnc2, hcm22, hcells2⟩ := own_form hou2 (by omega)
                have hcw := hcells2 y hyn
                rw [fnL_at n _ hyn, HROW.out] at hcw
                unfold maxLen at hcm22
                obtain ⟨m7, g7⟩ := hm3.setCell hml hxn (by decide) (by rw [hrow x hxn, fnL_len]) hcu y (max (fw M k x y) (min (fw M k x k) (fw M k k y)))
                rw [fwTo_set hxn hyn hxy rfl] at m7
                have hb7 := hb3.grown g7 hz (fun y hy => by injection hy with hy; omega)
                clear g7 hm3 hb3 hou hcells hou2 hcells2 hml hrow hxy hfu
                generalize fw M k x y = a1 at *
                generalize fw M k x k = a2 at *
                generalize fw M k k y = a3 at *
                have hv : max a1 (min a2 a3) = if a1 < (if a3 < a2 then a3 else a2) then (if a3 < a2 then a3 else a2) else a1 := by
                  by_cases q1 : a3 < a2
                  · rw [if_pos q1]; split <;> omega
                  · rw [if_neg q1]; split <;> omega
                rw [hv] at m7 hb7
                clear hv
                go_wp2_with fail
                go_region
                all_goals
                  go_wp2
                  go_roundw
                  case rel => exact ⟨y + 1, by omega, by go_num, m7.drewN _, below_drewN hb7 _⟩
                  case measure => simp [intOf]; omega
            · obtain rfl : y = n := by omega
              rw [fwTo_next] at hm3
              go_wp2
              go_roundw
              case rel => exact ⟨x + 1, by omega, by go_num, hm3, hb3⟩
              case measure => simp [intOf]; omega
        · obtain rfl : x = n := by omega
          rw [fwTo_end] at hm2
          go_wp2
          go_roundw
          case rel => exact ⟨k + 1, by omega, by go_num, hm2, hb2⟩
          case measure => simp [intOf]; omega
    · obtain rfl : k = n := by omega
      rw [HEND.out] at hm1
      go_wp2
      go_ret2
      exact ⟨_, rfl, hm1, hb1⟩
theorem wPaths : WPaths := fun a m c M w ti ht => (wpaths_own a m c M w ti ht).mono fun _ _ h => h.mat
end Go.Proofs.Ythcaipnlgbnfkaa

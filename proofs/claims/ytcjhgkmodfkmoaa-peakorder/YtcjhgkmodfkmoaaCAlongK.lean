/-
  plumekeep.along at a line that is an order: the order alongL, in a row of its own; nothing that was there is written.
-/
import Derived.Test.YtcjhgkmodfkmoaaOuts
import Derived.Test.YtcjhgkmodfkmoaaAlongMath
import Derived.Test.YtcjhgkmodfkmoaaCWithin
import Derived.Test.YtcjhgkmodfkmoaaPush
namespace Go.Proofs.Ytcjhgkmodfkmoaa
open Go.RowKit Fm
set_option linter.unusedVariables false

/-- What holds at the head of the loop of along. -/
def AlR (n : Nat) (line l : List Int) (w : World) (ov lv hv iv : Value) (wr : World) : Prop :=
  ∃ (j lo hi : Nat) (q : List Int) (lw : Int), j < n ∧ iv = .int .i64 ((j + 1 : Nat) : Int) ∧ lv = .int .i64 lw ∧ lw = (lo : Int) - 1 ∧ hv = .int .i64 (hi : Int) ∧ alTo line l j = (lo, hi, q) ∧ hi = lo + (j + 1) ∧ hi ≤ n ∧
    wr.ownsRow w.heap.size 3 1 ov (j + 1) (I q) ∧ Below w.heap.size w wr

set_option maxHeartbeats 4000000 in
set_option maxRecDepth 100000 in
theorem alongK_any {n : Nat} {line : List Int} (hl : line.Perm (sides n)) (h1 : 1 ≤ n) (h6 : n ≤ 6) (al a : Option Addr) (cl m c B : Nat) (l : List Int) (w : World) (hB : B ≤ w.heap.size) (rl : Rd w B al n line) (ra : Rd w B a m l) (hm : m ≤ 17592186044416)
    (hwf : ∀ x ∈ l, -9223372036854775808 ≤ x ∧ x ≤ 9223372036854775807) :
    Calls Try.prog 18 #[.slice al n cl, .slice a m c] w fun e w' => ∃ v, e = .returned v ∧ w'.ownsRow w.heap.size 3 1 v n (I (alongL line l)) ∧ Below w.heap.size w w' := by
  obtain ⟨b, o, rfl, hb, hcell⟩ := rl.2 (by omega)
  have HLN := Lib.hid (perm_len hl)
  have HM := Lib.hid ra.1
  have HR := Lib.hid ra
  have HW := Lib.hid hwf
  have CL : Hid (∀ (W : World) (j : Nat), j < n → Below w.heap.size w W → W.cell? ⟨b, o + j, none⟩ = some (.int .i64 (line.getD j 0))) := fun W j hj hW => (hW.cell (by show b < _; omega)).trans (hcell j hj)
  have HINV : Hid (∀ i, i < n → (alTo line l i).2.1 ≤ n ∧ (alTo line l i).2.1 = (alTo line l i).1 + (i + 1)) := fun i hi => by
    have hln := perm_len hl
    obtain ⟨q1, q2⟩ := alTo_inv (l := l) (perm_nodup hl) (by omega) i (by omega)
    have := q1.le
    exact ⟨by omega, q2⟩
  have HEND : Hid (alongL line l = (alTo line l (n - 1)).2.2) := by show _ = _; unfold alongL; rw [perm_len hl]
  have HAT : Hid (alTo line l 0 = (alAt line l, alAt line l + 1, [line.getD (alAt line l) 0])) := rfl
  have hat : alAt line l < n := by have := alAt_lt (line := line) (l := l) (by rw [perm_len hl]; omega); rwa [perm_len hl] at this
  have HA : Hid (alAt line l = if 0 < m then ((l.getD 0 0) % (n : Int)).toNat else 0) := by show _ = _; unfold alAt; rw [perm_len hl, ra.1]
  have HN1 : Hid (∀ j lo hi q, alTo line l j = (lo, hi, q) → alLeft line l lo hi (j + 1) = true → alTo line l (j + 1) = (lo - 1, hi, q ++ [line.getD (lo - 1) 0])) := fun j lo hi q h h2 => by rw [alTo, h]; dsimp only; rw [if_pos h2]
  have HN2 : Hid (∀ j lo hi q, alTo line l j = (lo, hi, q) → alLeft line l lo hi (j + 1) = false → alTo line l (j + 1) = (lo, hi + 1, q ++ [line.getD hi 0])) := fun j lo hi q h h2 => by rw [alTo, h]; dsimp only; rw [if_neg (by rw [h2]; simp)]
  have HLF : Hid (∀ lo hi i, alLeft line l lo hi i = (decide (n ≤ hi) || (decide (0 < lo) && decide (i < m) && decide ((l.getD i 0).tmod 2 = 0)))) := fun lo hi i => by unfold alLeft; rw [perm_len hl, ra.1]
  have hn0 : ((n : Int) == 0) = false := beq_eq_false_iff_ne.2 (by omega)
  obtain ⟨at_, hate⟩ : ∃ k, alAt line l = k := ⟨_, rfl⟩
  rw [hate] at HAT HA hat
  have hca := CL.out w at_ hat (Below.refl _ w)
  obtain ⟨x0, hx0⟩ : ∃ x, line.getD at_ 0 = x := ⟨_, rfl⟩
  rw [hx0] at HAT hca
  have own0 := own_lit w 3 [x0] #[.int .i64 x0] rfl (by unfold maxLen; simp)
  have hb0 : Below w.heap.size w (w.alloc (.cells #[.int .i64 x0] 3)) := (Below.refl _ w).alloc (Nat.le_refl _) _
  have H0 : Hid (AlR n line l w (.slice (some ⟨w.heap.size, 0, none⟩) 1 1) (.int .i64 ((at_ : Int) - 1)) (.int .i64 ((at_ : Int) + 1)) (.int .i64 1) (w.alloc (.cells #[.int .i64 x0] 3))) :=
    ⟨0, at_, at_ + 1, [x0], (at_ : Int) - 1, by omega, rfl, rfl, rfl, by go_num, HAT.out, by omega, by omega, own0, hb0⟩
  have QP : Hid (∀ (W : World) (ov : Value) (q : List Int), W.ownsRow w.heap.size 3 1 ov n (I q) → alTo line l (n - 1) = (0, n, q) → W.ownsRow w.heap.size 3 1 ov n (I (alongL line l))) := fun W ov q h h2 => by rw [HEND.out, h2]; exact h
  clear hcell rl ra hl hwf hate hx0 own0 hb0 HAT HEND
  rcases Nat.eq_zero_or_pos m with hm0 | hm0
  case' inl =>
    rw [if_neg (by omega)] at HA
    obtain rfl : at_ = 0 := HA.out
    rw [Nat.add_zero] at hca
    have hm1 : ¬ (0 : Int) < (m : Int) := by omega
    clear HA hm0
    go_enter Try.func18, Try.ntmps18
    go_wp2_with fail
  case' inr =>
    rw [if_pos hm0] at HA
    obtain ⟨b2, o2, rfl, hb2, hc0⟩ := HR.out.at_ hm0
    rw [Nat.add_zero] at hc0
    have hwx := HW.out (l.getD 0 0) (getD_mem l 0 (by rw [HM.out]; exact hm0))
    have HKK : Hid (l.getD 0 0 % (n : Int) = (at_ : Int)) := by
      show _ = _
      have := HA.out
      have h0 := Int.emod_nonneg (l.getD 0 0) (show (n : Int) ≠ 0 by omega)
      omega
    generalize l.getD 0 0 = x at *
    clear HA
    go_enter Try.func18, Try.ntmps18
    go_wp2_with fail
    refine (within_any x n w hwx.1 hwx.2 (by omega) (by omega)).mono ?_
    rintro e w' ⟨rfl, rfl⟩
    rw [HKK.out]
    go_wp2_with fail
  all_goals
    clear hca
    generalize w.alloc (.cells #[.int .i64 x0] 3) = w1 at *
    obtain ⟨g, hg⟩ : ∃ g, w.heap.size = g := ⟨_, rfl⟩
    rw [show Value.slice (some ⟨w.heap.size, 0, none⟩) 1 1 = Value.slice (some ⟨g, 0, none⟩) 1 1 by rw [hg]]
    rw [show Value.slice (some ⟨w.heap.size, 0, none⟩) 1 1 = Value.slice (some ⟨g, 0, none⟩) 1 1 by rw [hg]] at H0
    clear hg
    go_loopw [7, 8, 9, 10] (fun ov lv hv iv wr => AlR n line l w ov lv hv iv wr) (fun _ _ _ iv _ => n - (intOf iv).toNat)
    case atStart => exact H0.out
    case round =>
      obtain ⟨j, lo, hi, q, lw, hj, rfl, rfl, hlw, rfl, hal, hhi, hhn, own, hbel⟩ := hrel
      have HAL := Lib.hid hal
      have HLW := Lib.hid hlw
      have HHI := Lib.hid hhi
      have hz := hbel.size
      clear hal H0
      by_cases hjn : j + 1 < n
      · clear hlw hhi
        have hjj : (((j + 1 : Nat)) : Int) < (n : Int) := by omega
        have hjl : ((j : Int) + 1) < (n : Int) := by omega
        by_cases hA : n ≤ hi
        · obtain ⟨m', rfl⟩ : ∃ m', lo = m' + 1 := ⟨lo - 1, by have := HHI.out; omega⟩
          obtain rfl : lw = (m' : Int) := by have := HLW.out; omega
          have hA' : (n : Int) ≤ (hi : Int) := by omega
          have hmn : m' < n := by have := HHI.out; omega
          obtain ⟨y, hy⟩ : ∃ y, line.getD m' 0 = y := ⟨_, rfl⟩
          have HNX := Lib.hid (HN1.out j (m' + 1) hi q HAL.out (by rw [HLF.out]; rw [decide_eq_true hA]; rfl))
          rw [Nat.add_sub_cancel, hy] at HNX
          have hcy := CL.out wr m' (by omega) hbel
          rw [hy] at hcy
          clear hy HAL
          go_wp2_with (at_builtin; refine push1 rfl _ _ rfl wr w.heap.size _ (j + 1) q y rfl rfl (by exact own) hz (by omega) ?_)
          intro g4 cap4 w4 own4 gr4 _ _
          have hb4 := hbel.grown gr4 hz (own_not own)
          clear gr4 own hbel hcy
          go_wp2
          go_roundw
          case rel => exact ⟨j + 1, m', hi, q ++ [y], (m' : Int) - 1, by omega, by go_num, rfl, rfl, rfl, HNX.out, by have := HHI.out; omega, by omega, own4, hb4⟩
          case measure => simp [intOf]; omega
        · have hA' : ¬ (n : Int) ≤ (hi : Int) := by omega
          by_cases hlo : lo = 0
          · subst hlo
            obtain rfl : lw = -1 := by have := HLW.out; omega
            obtain ⟨y, hy⟩ : ∃ y, line.getD hi 0 = y := ⟨_, rfl⟩
            have HNX := Lib.hid (HN2.out j 0 hi q HAL.out (by rw [HLF.out]; rw [decide_eq_false hA]; simp))
            rw [hy] at HNX
            have hcy := CL.out wr hi (by omega) hbel
            rw [hy] at hcy
            clear hy HAL
            go_wp2_with (at_builtin; refine push1 rfl _ _ rfl wr w.heap.size _ (j + 1) q y rfl rfl (by exact own) hz (by omega) ?_)
            intro g4 cap4 w4 own4 gr4 _ _
            have hb4 := hbel.grown gr4 hz (own_not own)
            clear gr4 own hbel hcy
            go_wp2
            go_roundw
            case rel => exact ⟨j + 1, 0, hi + 1, q ++ [y], -1, by omega, by go_num, rfl, by omega, by go_num, HNX.out, by have := HHI.out; omega, by omega, own4, hb4⟩
            case measure => simp [intOf]; omega
          · obtain ⟨m', rfl⟩ : ∃ m', lo = m' + 1 := ⟨lo - 1, by omega⟩
            obtain rfl : lw = (m' : Int) := by have := HLW.out; omega
            have hlo0 : (0 : Int) ≤ (m' : Int) := by omega
            have hmn : m' < n := by have := HHI.out; omega
            by_cases hi2 : j + 1 < m
            · first
              | (exfalso; omega)
              | have hi2' : ((j : Int) + 1) < (m : Int) := by omega
                obtain ⟨b5, o5, ha5, _, hc5⟩ := HR.out.at_ hi2
                injection ha5 with ha5
                injection ha5 with ha5 ha6
                subst ha5; subst ha6
                have hc6 : wr.cell? ⟨b2, o2 + (j + 1), none⟩ = some (.int .i64 (l.getD (j + 1) 0)) := (hbel.cell (by show b2 < _; omega)).trans hc5
                have HTM : Hid (∀ r, decide ((l.getD (j + 1) 0).tmod 2 = 0) = r → alLeft line l (m' + 1) hi (j + 1) = r) := fun r hr => by rw [HLF.out, decide_eq_false hA, decide_eq_true hi2, hr]; simp
                clear hc5
                generalize l.getD (j + 1) 0 = lv at *
                by_cases ht : lv.tmod 2 = 0
                · have HTL := Lib.hid (HTM.out true (decide_eq_true ht))
                  have ht' : (lv.tmod 2 == 0) = true := by simpa using ht
                  clear HTM ht
                  obtain ⟨y, hy⟩ : ∃ y, line.getD m' 0 = y := ⟨_, rfl⟩
                  have HNX := Lib.hid (HN1.out j (m' + 1) hi q HAL.out HTL.out)
                  rw [Nat.add_sub_cancel, hy] at HNX
                  have hcy := CL.out wr m' (by omega) hbel
                  rw [hy] at hcy
                  clear hy HAL
                  go_wp2_with (at_builtin; refine push1 rfl _ _ rfl wr w.heap.size _ (j + 1) q y rfl rfl (by exact own) hz (by omega) ?_)
                  intro g4 cap4 w4 own4 gr4 _ _
                  have hb4 := hbel.grown gr4 hz (own_not own)
                  clear gr4 own hbel hcy
                  go_wp2
                  go_roundw
                  case rel => exact ⟨j + 1, m', hi, q ++ [y], (m' : Int) - 1, by omega, by go_num, rfl, rfl, rfl, HNX.out, by have := HHI.out; omega, by omega, own4, hb4⟩
                  case measure => simp [intOf]; omega
                · have HTL := Lib.hid (HTM.out false (decide_eq_false ht))
                  have ht' : (lv.tmod 2 == 0) = false := by simpa using ht
                  clear HTM ht
                  obtain ⟨y, hy⟩ : ∃ y, line.getD hi 0 = y := ⟨_, rfl⟩
                  have HNX := Lib.hid (HN2.out j (m' + 1) hi q HAL.out HTL.out)
                  rw [hy] at HNX
                  have hcy := CL.out wr hi (by omega) hbel
                  rw [hy] at hcy
                  clear hy HAL
                  go_wp2_with (at_builtin; refine push1 rfl _ _ rfl wr w.heap.size _ (j + 1) q y rfl rfl (by exact own) hz (by omega) ?_)
                  intro g4 cap4 w4 own4 gr4 _ _
                  have hb4 := hbel.grown gr4 hz (own_not own)
                  clear gr4 own hbel hcy
                  go_wp2
                  go_roundw
                  case rel => exact ⟨j + 1, (m' + 1), hi + 1, q ++ [y], (m' : Int), by omega, by go_num, rfl, by omega, by go_num, HNX.out, by have := HHI.out; omega, by omega, own4, hb4⟩
                  case measure => simp [intOf]; omega
            · have hi2' : ¬ ((j : Int) + 1) < (m : Int) := by omega
              obtain ⟨y, hy⟩ : ∃ y, line.getD hi 0 = y := ⟨_, rfl⟩
              have HNX := Lib.hid (HN2.out j (m' + 1) hi q HAL.out (by rw [HLF.out]; rw [decide_eq_false hA, decide_eq_false hi2]; simp))
              rw [hy] at HNX
              have hcy := CL.out wr hi (by omega) hbel
              rw [hy] at hcy
              clear hy HAL
              go_wp2_with (at_builtin; refine push1 rfl _ _ rfl wr w.heap.size _ (j + 1) q y rfl rfl (by exact own) hz (by omega) ?_)
              intro g4 cap4 w4 own4 gr4 _ _
              have hb4 := hbel.grown gr4 hz (own_not own)
              clear gr4 own hbel hcy
              go_wp2
              go_roundw
              case rel => exact ⟨j + 1, (m' + 1), hi + 1, q ++ [y], (m' : Int), by omega, by go_num, rfl, by omega, by go_num, HNX.out, by have := HHI.out; omega, by omega, own4, hb4⟩
              case measure => simp [intOf]; omega
      · obtain rfl : n = j + 1 := by omega
        have hlo : lo = 0 := by omega
        have hhi0 : hi = j + 1 := by omega
        have HQ := Lib.hid (QP.out wr _ q own (by rw [Nat.add_sub_cancel, HAL.out, hlo, hhi0]))
        clear HLW HHI hlo hhi0 hlw hhi
        go_wp2
        go_ret
        exact ⟨_, rfl, HQ.out, hbel⟩
end Go.Proofs.Ytcjhgkmodfkmoaa

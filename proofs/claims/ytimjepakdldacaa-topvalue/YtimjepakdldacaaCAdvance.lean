/-
  order.advance turns a row of the caller's own into the next order and returns true, or returns false and leaves it; nothing else is written.
-/
import Derived.Test.YtimjepakdldacaaCReverse
import Derived.RegionTactic
import Derived.BigRegion
import Derived.BigQuiet
import Derived.Deep.QuietTactic
import Derived.WalkKit
import Derived.KernelRfl
import Derived.Laws.NewBlocks
namespace Go.Proofs.Ytimjepakdldacaa
open Go.RowKit Fm
set_option linter.unusedVariables false

set_option maxHeartbeats 1000000 in
set_option maxRecDepth 100000 in
theorem advance_none (base g n cap : Nat) (p : List Int) (w : World) (hown : w.ownsRow base 3 1 (.slice (some ⟨g, 0, none⟩) n cap) n (I p)) (h1 : 1 ≤ n) (h6 : n ≤ 1000) (hs : scanI p (n - 1) = 0) :
    Calls Try.prog 70 #[.slice (some ⟨g, 0, none⟩) n cap] w fun e w' => e = .returned (.bool false) ∧ ∃ q, w' = w.drewN q := by
  have HC := Lib.hid (own_cell hown)
  have HS := Lib.hid hs
  clear hown hs
  go_enter Try.func70, Try.ntmps70
  go_wp2
  go_loopw [3] (fun s3 wr => ∃ (s m : Nat) (z : Int), s ≤ n - 1 ∧ z = (s : Int) - 1 ∧ s3 = .int .i64 z ∧ scanI p s = scanI p (n - 1) ∧ wr = w.drewN m) (fun s3 _ => (intOf s3 + 1).toNat)
  case atStart => exact ⟨n - 1, 0, _, Nat.le_refl _, by omega, rfl, rfl, rfl⟩
  case round =>
    obtain ⟨s, m, z, hsn, hz, rfl, hsc, rfl⟩ := hrel
    have HSC := Lib.hid hsc
    clear hsc
    cases s with
    | zero =>
      obtain rfl : z = -1 := by omega
      clear hz
      go_wp2
      go_quiet (fail)
      go_wp2
      go_ret
      exact ⟨rfl, _, rfl⟩
    | succ t =>
      obtain rfl : z = (t : Int) := by omega
      clear hz
      have c0 := HC.out t (by omega)
      have c1 := HC.out (t + 1) (by omega)
      have b0 : (t : Int) < (n : Int) := by omega
      have b1 : (t : Int) + 1 < (n : Int) := by omega
      by_cases hlt : p.getD (t + 1) 0 < p.getD t 0
      · have hsc : scanI p t = scanI p (n - 1) := by rw [← HSC.out]; simp only [scanI]; rw [if_pos hlt]
        have HN := Lib.hid hsc
        clear hsc
        generalize p.getD (t + 1) 0 = y1 at *
        generalize p.getD t 0 = y0 at *
        go_wp2
        go_quiet (fail)
        go_wp2
        go_roundw
        case rel => exact ⟨t, _, _, by omega, rfl, rfl, HN.out, rfl⟩
        case measure => simp [intOf]; try omega
      · exfalso
        have h2 := HSC.out
        rw [HS.out] at h2
        simp only [scanI] at h2
        rw [if_neg hlt] at h2
        omega

set_option maxHeartbeats 2000000 in
set_option maxRecDepth 100000 in
theorem advance_some (base g n cap : Nat) (p : List Int) (w : World) (hown : w.ownsRow base 3 1 (.slice (some ⟨g, 0, none⟩) n cap) n (I p)) (h1 : 1 ≤ n) (h6 : n ≤ 1000) (i : Nat) (hs : scanI p (n - 1) = i + 1) :
    Calls Try.prog 70 #[.slice (some ⟨g, 0, none⟩) n cap] w fun e w' => e = .returned (.bool true) ∧
      w'.ownsRow base 3 1 (.slice (some ⟨g, 0, none⟩) n cap) n (I (turnTail (exch p i (scanJ p (p.getD i 0) (n - 1))) (i + 1))) ∧ w.grownBy w' (some g) := by
  have HC := Lib.hid (own_cell hown)
  have HO := Lib.hid hown
  have HS := Lib.hid hs
  have hcap : n ≤ cap := by obtain ⟨a, c, hv, h, _⟩ := own_slice hown; injection hv with _ _ hv; omega
  clear hown hs
  go_enter Try.func70, Try.ntmps70
  go_wp2
  go_loopw [3] (fun s3 wr => ∃ (s m : Nat) (z : Int), s ≤ n - 1 ∧ z = (s : Int) - 1 ∧ s3 = .int .i64 z ∧ scanI p s = scanI p (n - 1) ∧ wr = w.drewN m) (fun s3 _ => (intOf s3 + 1).toNat)
  case atStart => exact ⟨n - 1, 0, _, Nat.le_refl _, by omega, rfl, rfl, rfl⟩
  case round =>
    obtain ⟨s, m, z, hsn, hz, rfl, hsc, rfl⟩ := hrel
    have HSC := Lib.hid hsc
    clear hsc
    cases s with
    | zero =>
      exfalso
      have h2 := HSC.out
      rw [HS.out] at h2
      simp only [scanI] at h2
      omega
    | succ t =>
      obtain rfl : z = (t : Int) := by omega
      clear hz
      have c0 := HC.out t (by omega)
      have c1 := HC.out (t + 1) (by omega)
      have b0 : (t : Int) < (n : Int) := by omega
      have b1 : (t : Int) + 1 < (n : Int) := by omega
      by_cases hlt : p.getD (t + 1) 0 < p.getD t 0
      · have hsc : scanI p t = scanI p (n - 1) := by rw [← HSC.out]; simp only [scanI]; rw [if_pos hlt]
        have HN := Lib.hid hsc
        clear hsc
        generalize p.getD (t + 1) 0 = y1 at *
        generalize p.getD t 0 = y0 at *
        go_wp2
        go_quiet (fail)
        go_wp2
        go_roundw
        case rel => exact ⟨t, _, _, by omega, rfl, rfl, HN.out, rfl⟩
        case measure => simp [intOf]; try omega
      · have hti : t = i := by
          have h2 := HSC.out
          rw [HS.out] at h2
          simp only [scanI] at h2
          rw [if_neg hlt] at h2
          omega
        subst hti
        have HLT := Lib.hid hlt
        clear hlt HSC HS
        have hdd : decide (p.getD (t + 1) 0 < p.getD t 0) = false := by simpa using HLT.out
        generalize hx : p.getD t 0 = x at *
        generalize hx1 : p.getD (t + 1) 0 = x1 at *
        have HX := Lib.hid hx
        have HX1 := Lib.hid hx1
        clear hx hx1
        go_wp2
        go_quiet (fail)
        go_wp2
        go_loopw [4] (fun s4 wr => ∃ (j m : Nat), t + 1 ≤ j ∧ j ≤ n - 1 ∧ s4 = .int .i64 j ∧ scanJ p x j = scanJ p x (n - 1) ∧ wr = w.drewN m) (fun s4 _ => (intOf s4).toNat)
        case atStart => exact ⟨n - 1, _, by omega, by omega, by go_num, rfl, rfl⟩
        case round =>
          obtain ⟨j, m', hj1, hj2, rfl, hsj, rfl⟩ := hrel
          have HSJ := Lib.hid hsj
          clear hsj c1 b1 hdd
          have cj := HC.out j (by omega)
          have bj : (j : Int) < (n : Int) := by omega
          by_cases hjl : p.getD j 0 < x
          · have hj3 : t + 1 < j := by
              rcases Nat.lt_or_ge (t + 1) j with h | h
              · exact h
              · exfalso
                have : j = t + 1 := by omega
                subst this
                rw [HX1.out] at hjl
                have := HLT.out
                omega
            have hsj : scanJ p x (j - 1) = scanJ p x (n - 1) := by
              rw [← HSJ.out]
              obtain ⟨j', rfl⟩ : ∃ j', j = j' + 1 := ⟨j - 1, by omega⟩
              simp only [scanJ, Nat.add_sub_cancel]
              rw [if_pos hjl]
            have HN := Lib.hid hsj
            clear hsj
            generalize p.getD j 0 = y at *
            go_wp2
            go_quiet (fail)
            go_wp2
            go_roundw
            case rel => exact ⟨j - 1, _, by omega, by omega, by go_num, HN.out, rfl⟩
            case measure => simp [intOf]; try omega
          · have hsj : scanJ p x (n - 1) = j := by
              rw [← HSJ.out]
              obtain ⟨j', rfl⟩ : ∃ j', j = j' + 1 := ⟨j - 1, by omega⟩
              simp only [scanJ]
              rw [if_neg hjl]
            have HJ := Lib.hid hsj
            clear hsj
            have HJL := Lib.hid hjl
            have hdj : decide (p.getD j 0 < x) = false := by simpa using hjl
            clear hjl
            rw [HJ.out]
            generalize hy : p.getD j 0 = y at *
            have HY := Lib.hid hy
            clear hy
            go_wp2
            go_quiet (fail)
            go_wp2
            have f0 := HO.out.frozenAt t
            have fj := HO.out.frozenAt j
            go_region
            go_wp2_with fail
            have s1 := HO.out.stored t (.int .i64 y)
            have s2 := s1.1.stored j (.int .i64 x)
            have e1 : ((I p).set t (.int .i64 y)).set j (.int .i64 x) = I (exch p t j) := by unfold I exch; rw [HX.out, HY.out, List.map_set, List.map_set]
            rw [e1] at s2
            refine (reverse_tail base g n cap (t + 1) _ (exch p t j) _ ?own (by omega) (by omega)).mono ?_
            case own => exact s2.1
            rintro e w2 ⟨rfl, o2, g2⟩
            have g3 : w.grownBy w2 (some g) := by
              have h3 := grown_trans s1.2 s2.2
              exact ⟨g2.os.trans h3.os, g2.tape.trans h3.tape, g2.output.trans h3.output, Nat.le_trans h3.size g2.size, fun k hk hne => (g2.block k (Nat.lt_of_lt_of_le hk h3.size) hne).trans (h3.block k hk hne)⟩
            clear g2 s1 s2
            go_wp2
            go_ret
            exact ⟨rfl, by rw [HX.out, HJ.out]; exact o2, g3⟩
end Go.Proofs.Ytimjepakdldacaa

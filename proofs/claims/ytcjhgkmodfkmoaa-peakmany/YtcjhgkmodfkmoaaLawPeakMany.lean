/-
  plumekeep.PeakMany returns true, for every int and two slices of ints, if peak.Along keeps its contract; nothing that was there is written.
-/
import Derived.Test.YtcjhgkmodfkmoaaCPeaks
import Derived.Test.YtcjhgkmodfkmoaaPeakCount
import Derived.Test.YtcjhgkmodfkmoaaCAll
import Derived.Test.YtcjhgkmodfkmoaaCClone
import Derived.Test.YtcjhgkmodfkmoaaCReverse
import Derived.Test.YtcjhgkmodfkmoaaCOrderOf
import Derived.Test.YtcjhgkmodfkmoaaCWithin
namespace Go.Proofs.Ytcjhgkmodfkmoaa
open Go.RowKit Fm
set_option linter.unusedVariables false

theorem achk_perm {n : Nat} {line p : List Int} (hl : line.Perm (sides n)) (hp : p.Perm (sides n)) (h1 : 1 ≤ n) (h6 : n ≤ 6) : achk line p = 0 ∧ alongA line p = alongB line p := by
  have e : achk line p = 0 := by rw [achk_ok (by rw [perm_len hl]; exact chk_perm hl h1 h6), perm_len hl]; exact chk_perm hp h1 h6
  exact ⟨e, alongA_ok e⟩
theorem pow_at : ∀ n : Nat, n ≤ 6 → ∀ m : Nat, m = n - 1 → wrap64 (2 ^ m) = ((2 ^ m : Nat) : Int) := by
  intro n hn m hm
  have : m = 0 ∨ m = 1 ∨ m = 2 ∨ m = 3 ∨ m = 4 ∨ m = 5 := by omega
  rcases this with rfl | rfl | rfl | rfl | rfl | rfl <;> decide +kernel

set_option maxHeartbeats 4000000 in
set_option maxRecDepth 100000 in
theorem peakMany_is (pA : PAlong) (n0 : Int) (hn0 : -9223372036854775808 ≤ n0) (hn1 : n0 ≤ 9223372036854775807) (v1 : Value) (X : List Int) {w : World} (f1 : IsInts w v1 X) (v2 : Value) (Y : List Int) (f2 : IsInts w v2 Y) :
    Calls Try.prog 6 #[.int .i64 n0, v1, v2] w fun e w' => e = .returned (.bool true) ∧ Below w.heap.size w w' := by
  obtain ⟨ax, cx, rfl, rx, hox, _⟩ := f1
  obtain ⟨ay, cy, rfl, ry, hoy, _⟩ := f2
  have HRX := Lib.hid rx
  have HRY := Lib.hid ry
  have HOX := Lib.hid hox
  have HOY := Lib.hid hoy
  have W0 : Hid (∀ W, Calls Try.prog 14 #[] W fun e w' => e = .returned (.bool true) ∧ Below W.heap.size W w') := fun W => peaks_any pA W
  have PA : Hid PAlong := pA
  clear pA rx ry hox hoy
  go_enter Try.func6, Try.ntmps6
  go_wp2_with fail
  refine (W0.out w).mono ?_
  rintro e w1 ⟨rfl, hb1⟩
  clear W0
  go_wp2_with fail
  refine (within_any n0 6 w1 hn0 hn1 (by omega) (by omega)).mono ?_
  rintro e w1' ⟨rfl, rfl⟩
  obtain ⟨n, hn⟩ : ∃ n : Nat, 1 + n0 % 6 = n := ⟨(1 + n0 % 6).toNat, by omega⟩
  have h1 : 1 ≤ n := by omega
  have h6 : n ≤ 6 := by omega
  have e6 : n0 % 6 = (n : Int) - 1 := by omega
  rw [e6]
  have en : 1 + ((n : Int) - 1) = n := by omega
  clear hn e6 hn0 hn1
  go_wp2_with fail
  refine (orderOf_any n ax X.length cx X w1 w1.heap.size (Nat.le_refl _) (rd_ext HRX.out hb1) h1 h6 HOX.out).mono ?_
  rintro e w2 ⟨v2, rfl, o2, hb2⟩
  obtain ⟨al, cl, rfl, hcl, _⟩ := own_slice o2
  have hb02 := ext_trans hb1 hb2
  have HLP := Lib.hid (ordOf_perm n X)
  have r2 := Rd.of_own o2
  generalize ordOf n X = line at *
  clear o2 hb1 hb2
  go_wp2_with fail
  refine (orderOf_any n ay Y.length cy Y w2 w2.heap.size (Nat.le_refl _) (rd_ext HRY.out hb02) h1 h6 HOY.out).mono ?_
  rintro e w3 ⟨v3, rfl, o3, hb3⟩
  obtain ⟨ap, cp, rfl, hcp, _⟩ := own_slice o3
  have hb03 := ext_trans hb02 hb3
  have HPP := Lib.hid (ordOf_perm n Y)
  have rp3 := Rd.of_own o3
  have rl3 := rd_ext r2 hb3
  generalize ordOf n Y = p at *
  clear o3 hb02 hb3 r2 HRX HRY HOX HOY
  go_wp2_with fail
  refine (clone_any line al n cl w3 w3.heap.size rl3 (by omega)).mono ?_
  rintro e w4 ⟨v4, rfl, o4, hb4⟩
  obtain ⟨g4, c4, rfl, hg4, _, hc4, _⟩ := own_form o4 (by omega)
  have hb04 := ext_trans hb03 hb4
  have rl4 := rl3.below hb4 (Nat.le_refl _)
  have rp4 := rp3.below hb4 (Nat.le_refl _)
  have hz34 := hb4.size
  clear hb4 rl3 rp3
  go_wp2_with fail
  refine (reverse_own w3.heap.size g4 n c4 line w4 o4 (by omega)).mono ?_
  rintro e w5 ⟨rfl, o5, g5⟩
  have hz45 := g5.size
  have rl5 := (rl4.grown g5 hz34 (fun g hg => by injection hg with hg; omega)).more (B' := w5.heap.size) (by omega)
  have rp5 := (rp4.grown g5 hz34 (fun g hg => by injection hg with hg; omega)).more (B' := w5.heap.size) (by omega)
  have hz03 := hb03.size
  have hb05 := hb04.grown g5 hb04.size (fun g hg => by injection hg with hg; omega)
  have rb5 := Rd.of_own o5
  have RL := Lib.hid rl5
  have RP := Lib.hid rp5
  have RB := Lib.hid rb5
  have HBP : Hid (line.reverse.Perm (sides n)) := (List.reverse_perm line).trans HLP.out
  clear o4 o5 g5 rl4 rp4 rl5 rp5 rb5 hb04 hb03 hz34 hz45 hz03
  go_wp2_with fail
  refine (all_any n w5 h1 h6).mono ?_
  rintro e w6 ⟨v6, vs, rfl, o6, el, hb6⟩
  obtain ⟨g6, c6, rfl, _, _⟩ := o6.form (by rw [allO_len h1 h6]; exact fact_ge n)
  have hl7 := allO_le h1 h6
  have O6 := Lib.hid o6
  have EL := Lib.hid el
  have HALL : Hid (∀ q ∈ allO n, q.Perm (sides n)) := fun q hq => mem_allO.1 hq
  have HMANY := Lib.hid (peak_many HLP.out h1 h6)
  have HB06 := Lib.hid (ext_trans hb05 hb6)
  have RL6 := Lib.hid (rd_ext RL.out hb6)
  have RP6 := Lib.hid (rd_ext RP.out hb6)
  have RB6 := Lib.hid (rd_ext RB.out hb6)
  clear o6 el hb05 hb6 RL RP RB
  generalize allO n = L at *
  go_wp2_with fail
  go_loopw [12, 45] (fun mv iv wr => ∃ k : Nat, k ≤ L.length ∧ iv = .int .i64 k ∧ mv = .int .i64 ((L.take k).countP (alongB line)) ∧ Below w6.heap.size w6 wr) (fun _ iv _ => L.length - (intOf iv).toNat)
  case atStart => exact ⟨0, Nat.zero_le _, rfl, rfl, Below.refl _ w6⟩
  case round =>
    obtain ⟨k, hk, rfl, rfl, hbel⟩ := hrel
    by_cases hkL : k < L.length
    · obtain ⟨u, hu, hou⟩ := EL.out.at_ hkL
      have hperm := HALL.out _ (memR hkL)
      have hql := perm_len hperm
      rw [hql] at hou
      obtain ⟨gu, cu, rfl, _, _, hnc, _, _⟩ := own_form hou (by omega)
      have hlt2 : g6 < w6.heap.size := (O6.out.lt g6 rfl).2
      have hck : wr.cell? ⟨g6, k, none⟩ = some (.slice (some ⟨gu, 0, none⟩) n cu) := by
        rw [hbel.cell (by exact hlt2), O6.out.cellAt k (by omega)]
        exact hu
      have HS : Hid ((L.take (k + 1)).countP (alongB line) = (L.take k).countP (alongB line) + if alongB line (L.getD k []) = true then 1 else 0) := by
        show _ = _
        have hsn : L.take (k + 1) = L.take k ++ [L.getD k []] := by
          rw [List.take_succ_eq_append_getElem hkL, List.getD_eq_getElem?_getD, List.getElem?_eq_getElem hkL]; rfl
        rw [hsn, List.countP_append, List.countP_singleton]
      have hcl2 : (L.take k).countP (alongB line) ≤ 720 := Nat.le_trans List.countP_le_length (by rw [List.length_take]; omega)
      obtain ⟨a1, a2⟩ := achk_perm HLP.out hperm h1 h6
      have QA := Lib.hid (PA.out al n cl line (some ⟨gu, 0, none⟩) n cu (L.getD k []) wr ⟨rd_ext RL6.out hbel, by omega, hcl⟩ ⟨rd_ext (Rd.of_own hou) hbel, by omega, hnc⟩)
      rw [a1, a2] at QA
      clear hu hperm hql hou a1 a2 hlt2
      generalize L.getD k [] = q at *
      generalize (L.take k).countP (alongB line) = cc at *
      generalize alongB line q = r at *
      go_wp2_with fail
      refine QA.out.mono ?_
      rintro e w7 ⟨rfl, hb7⟩
      have hb67 := ext_trans hbel hb7
      clear QA hb7 hbel hck
      cases r with
      | true =>
        rw [if_pos rfl] at HS
        go_wp2
        go_roundw
        case rel => exact ⟨k + 1, by omega, by go_num, by rw [HS.out]; go_num, hb67⟩
        case measure => simp [intOf]; omega
      | false =>
        rw [if_neg (by simp)] at HS
        go_wp2
        go_roundw
        case rel => exact ⟨k + 1, by omega, by go_num, by rw [HS.out]; rfl, hb67⟩
        case measure => simp [intOf]; omega
    · obtain rfl : k = L.length := by omega
      rw [List.take_of_length_le (Nat.le_refl _), HMANY.out]
      obtain ⟨a1, a2⟩ := achk_perm HLP.out HPP.out h1 h6
      obtain ⟨b1, b2⟩ := achk_perm HBP.out HPP.out h1 h6
      have hb07 := ext_trans HB06.out hbel
      have QA := Lib.hid (PA.out al n cl line ap n cp p wr ⟨rd_ext RL6.out hbel, by omega, hcl⟩ ⟨rd_ext RP6.out hbel, by omega, hcp⟩)
      have QB : Hid (∀ W, Below wr.heap.size wr W → Calls Try.prog 7 #[.slice (some ⟨g4, 0, none⟩) n c4, .slice ap n cp] W fun e w' => e = .returned (.tuple #[.bool (alongA line.reverse p), .int .i64 (achk line.reverse p)]) ∧ Below W.heap.size W w') := fun W hW =>
        PA.out (some ⟨g4, 0, none⟩) n c4 line.reverse ap n cp p W ⟨rd_ext RB6.out (ext_trans hbel hW), by omega, hc4⟩ ⟨rd_ext RP6.out (ext_trans hbel hW), by omega, hcp⟩
      rw [a1, a2] at QA
      rw [b1, b2, along_rev] at QB
      clear a1 a2 b1 b2 RL6 RP6 RB6 hbel
      generalize alongB line p = r at *
      obtain ⟨m, hm⟩ : ∃ m, n - 1 = m := ⟨_, rfl⟩
      rw [hm]
      have hpw := pow_at n h6 m hm.symm
      have hnm : (n : Int) - 1 = (m : Int) := by omega
      clear hm
      go_wp2_with fail
      refine QA.out.mono ?_
      rintro e w7 ⟨rfl, hb7⟩
      have hb17 := ext_trans hb07 hb7
      clear QA hb07
      go_wp2_with fail
      refine (QB.out w7 hb7).mono ?_
      rintro e w8 ⟨rfl, hb8⟩
      have hb18 := ext_trans hb17 hb8
      clear QB hb17 hb8 hb7
      have hrr : (r == r) = true := by simp
      go_wp2_with fail
      refine (good_zero w8.heap.size 0 2 2 _ (by omega) (zeros_at w8 24 2 #[.int .i64 0, .int .i64 0] rfl)).mono ?_
      rintro e w9 ⟨rfl, rfl⟩
      go_wp2
      go_ret
      exact ⟨rfl, hb18.alloc hb18.size _⟩
end Go.Proofs.Ytcjhgkmodfkmoaa

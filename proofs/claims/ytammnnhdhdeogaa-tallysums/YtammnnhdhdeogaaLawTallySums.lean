/-
  plumekeep.TallySums returns true, for every int and every slice of slices of ints, if package tally keeps its contracts; nothing that was there is written.
-/
import Derived.Test.YtammnnhdhdeogaaCTallies
import Derived.Test.YtammnnhdhdeogaaCVotesOf
import Derived.Test.YtammnnhdhdeogaaCWithin
import Derived.Test.YtammnnhdhdeogaaSumsMath
import Derived.Deep.QuietTactic
import Derived.BigQuiet
namespace Go.Proofs.Ytammnnhdhdeogaa
open Go.RowKit Fm
set_option linter.unusedVariables false

theorem votesOf_ok {n : Nat} (h1 : 1 ≤ n) (h6 : n ≤ 6) (L : List (List Int)) : vchk n (votesOf n L) = 0 :=
  vchk_ok (by omega) (by rw [votesOf_len]; omega) (fun l hl => chk_perm (votesOf_mem hl) h1 h6)
theorem VotesOut.use {n : Nat} {L : List (List Int)} {w w' : World} {e : Ending} (h : VotesOut n L w e w') : ∃ a c, e = .returned (.slice a (votesOf n L).length c) ∧ (votesOf n L).length ≤ c ∧ c ≤ maxLen ∧ RdR w' w'.heap.size a (votesOf n L).length (votesOf n L) ∧ Below w.heap.size w w' := by
  obtain ⟨v, vs, rfl, ho, he, hb⟩ := h
  obtain ⟨a, c, rfl, h1, h2⟩ : ∃ a c, v = .slice a (votesOf n L).length c ∧ (votesOf n L).length ≤ c ∧ c ≤ maxLen := by
    rcases ho.2 with ⟨hv, hn⟩ | ⟨g, cap, cur, rfl, _, _, h1, h2, _⟩
    · exact ⟨none, 0, by rw [hv, hn], by omega, by unfold maxLen; omega⟩
    · exact ⟨_, cap, rfl, h1, h2⟩
  exact ⟨a, c, rfl, h1, h2, RdR.of_own ho rfl he, hb⟩

set_option maxHeartbeats 4000000 in
set_option maxRecDepth 100000 in
theorem tallySums_is (C : TallyC) (n0 : Int) (hn0 : -9223372036854775808 ≤ n0) (hn1 : n0 ≤ 9223372036854775807) (v : Value) (L : List (List Int)) {w : World} (f : IsRows w v L) :
    Calls Try.prog 4 #[.int .i64 n0, v] w fun e w' => e = .returned (.bool true) ∧ Below w.heap.size w w' := by
  obtain ⟨a, c, rfl, hr, hall, hlc, _, hcm, h24⟩ := f
  have HR := Lib.hid hr
  have HO := Lib.hid (fun l hl => (hall l hl).1)
  have HC := Lib.hid C
  clear hr hall C
  go_enter Try.func4, Try.ntmps4
  go_wp2_with fail
  refine (tallies_any HC.out w).mono ?_
  rintro e w1 ⟨rfl, hb1⟩
  have z1 := hb1.size
  go_wp2_with fail
  refine (within_any n0 6 w1 hn0 hn1 (by omega) (by omega)).mono ?_
  rintro e w1' ⟨rfl, rfl⟩
  obtain ⟨n, hn⟩ : ∃ n : Nat, 1 + n0 % 6 = n := ⟨(1 + n0 % 6).toNat, by omega⟩
  have h1 : 1 ≤ n := by omega
  have h6 : n ≤ 6 := by omega
  have e6 : n0 % 6 = (n : Int) - 1 := by omega
  rw [e6]
  clear hn e6 hn0 hn1
  go_wp2_with fail
  rw [show 1 + ((n : Int) - 1) = n by omega]
  refine (votesOf_any n a L.length c L w1 ((HR.out.below hb1 (Nat.le_refl _)).more z1) hlc hcm h1 h6 HO.out).mono ?_
  rintro e w2 h
  obtain ⟨va, vc, rfl, _, _, hrV, hb2⟩ := h.use
  clear h
  have z2 := hb2.size
  have hb02 := hb1.trans (hb2.mono z1)
  have HV30 := votesOf_len n L
  have HP := Lib.hid (fun p (hp : p ∈ votesOf n L) => votesOf_mem hp)
  have HOK := Lib.hid (votesOf_ok h1 h6 L)
  have RV := Lib.hid hrV
  generalize votesOf n L = V at *
  have hV30 : V.length ≤ 30 := by omega
  clear HV30 hrV hb1 hb2 HR HO hlc hcm h24
  go_wp2_with fail
  refine (HC.out.duels n va V.length vc V w2 w2.heap.size (Nat.le_refl _) RV.out (by omega) HOK.out).mono ?_
  rintro e w3 ⟨a3, c3, rfl, _, _, rM, hb3⟩
  rw [duelsM_len] at rM ⊢
  have z3 := hb3.size
  have hb03 := hb02.trans (hb3.mono (by omega))
  go_wp2_with fail
  refine (HC.out.points n va V.length vc V w3 w2.heap.size z3 (RV.out.below hb3 (Nat.le_refl _)) (by omega) HOK.out).mono ?_
  rintro e w4 ⟨a4, c4, rfl, _, _, rP, hb4⟩
  have hpl : (pointsL n V).length = n := by simp [pointsL, sides_len]
  rw [hpl] at rP ⊢
  have z4 := hb4.size
  have hb04 := hb03.trans (hb4.mono (by omega))
  have hb24 := hb3.trans (hb4.mono (by omega))
  go_wp2_with fail
  refine (HC.out.firsts n va V.length vc V w4 w2.heap.size (by omega) (RV.out.below hb24 (Nat.le_refl _)) (by omega) HOK.out).mono ?_
  rintro e w5 ⟨a5, c5, rfl, _, _, rF, hb5⟩
  have hfl : (firstsL n V).length = n := by simp [firstsL, sides_len]
  rw [hfl] at rF ⊢
  have z5 := hb5.size
  have hb05 := hb04.trans (hb5.mono (by omega))
  have RM := Lib.hid (((rM.below hb4 (Nat.le_refl _)).below hb5 (by omega)).more (B' := w5.heap.size) (by omega))
  have RP := Lib.hid ((rP.below hb5 (Nat.le_refl _)).more (B' := w5.heap.size) (by omega))
  have RF := Lib.hid rF
  clear rM rP rF hb3 hb4 hb5 hb24 hb04 hb03 hb02 HC HOK RV hpl hfl
  go_wp2_with fail
  refine (good_zero w5.heap.size 0 3 3 _ (by omega) (zeros_at w5 23 3 #[.int .i64 0, .int .i64 0, .int .i64 0] rfl)).mono ?_
  rintro e w6 ⟨rfl, rfl⟩
  obtain ⟨W, hW⟩ : ∃ W : World, W = w5.alloc (.cells #[.int .i64 0, .int .i64 0, .int .i64 0] 23) := ⟨_, rfl⟩
  have QM := Lib.hid (RM.out.alloc (Nat.le_refl _) (.cells #[.int .i64 0, .int .i64 0, .int .i64 0] 23))
  have QP := Lib.hid (RP.out.alloc (Nat.le_refl _) (.cells #[.int .i64 0, .int .i64 0, .int .i64 0] 23))
  have QF := Lib.hid (RF.out.alloc (Nat.le_refl _) (.cells #[.int .i64 0, .int .i64 0, .int .i64 0] 23))
  have hbW := hb05.alloc (by omega) (.cells #[.int .i64 0, .int .i64 0, .int .i64 0] 23)
  rw [← hW] at QM QP QF hbW ⊢
  clear hW RM RP RF hb05
  obtain ⟨b, o, rfl, hbB, hrows⟩ := QM.out.2 (by omega)
  obtain ⟨pb, po, rfl, hpB, hpc⟩ := QP.out.2 (by omega)
  obtain ⟨fb, fo, rfl, hfB, hfc⟩ := QF.out.2 (by omega)
  have HROW : Hid (∀ x, x < n → ∃ bx ox cx, W.cell? ⟨b, o + x, none⟩ = some (.slice (some ⟨bx, ox, none⟩) n cx) ∧ ∀ y, y < n → W.cell? ⟨bx, ox + y, none⟩ = some (.int .i64 (cnt V x y))) := fun x hx => by
    obtain ⟨a', c', h2, _, _, _, h5⟩ := hrows x hx
    have hxl : x < (duelsM n V).length := by rw [duelsM_len]; exact hx
    have hm : (duelsM n V).getD x [] ∈ duelsM n V := by rw [List.getD_eq_getElem?_getD, List.getElem?_eq_getElem hxl]; exact List.getElem_mem hxl
    have hln := duelsM_rows hm
    rw [hln] at h2 h5
    obtain ⟨bx, ox, rfl, h6, h7⟩ := h5.2 (by omega)
    exact ⟨bx, ox, c', h2, fun y hy => (h7 y hy).trans (by rw [← ent_duels n V hx hy]; rfl)⟩
  have HPC : Hid (∀ x, x < n → W.cell? ⟨pb, po + x, none⟩ = some (.int .i64 (pts n V x))) := fun x hx => (hpc x hx).trans (by unfold pointsL; rw [map_sides_getD n _ hx])
  have HFC : Hid (∀ x, x < n → W.cell? ⟨fb, fo + x, none⟩ = some (.int .i64 (fst1 V x))) := fun x hx => (hfc x hx).trans (by unfold firstsL; rw [map_sides_getD n _ hx])
  clear hrows hpc hfc QM QP QF
  go_wp2_with fail
  go_loopw [12, 67] (fun fs i wr => ∃ k d : Nat, k ≤ n ∧ i = .int .i64 k ∧ fs = .int .i64 (tot (sides k) (fst1 V)) ∧ wr = W.drewN d) (fun _ i _ => n - (intOf i).toNat)
  case atStart => exact ⟨0, 0, Nat.zero_le _, rfl, rfl, rfl⟩
  case round =>
    obtain ⟨k, d, hk, rfl, rfl, rfl⟩ := hrel
    by_cases hkn : k < n
    · obtain ⟨bx, ox, cx, hx1, hx3⟩ := HROW.out k hkn
      have hx1' : ∀ d, (W.drewN d).cell? ⟨b, o + k, none⟩ = some (.slice (some ⟨bx, ox, none⟩) n cx) := fun d => hx1
      have HX3 : Hid (∀ d y, y < n → (W.drewN d).cell? ⟨bx, ox + y, none⟩ = some (.int .i64 (cnt V k y))) := fun d => hx3
      have hp1 : ∀ d, (W.drewN d).cell? ⟨pb, po + k, none⟩ = some (.int .i64 (pts n V k)) := fun d => HPC.out k hkn
      have hf1 : ∀ d, (W.drewN d).cell? ⟨fb, fo + k, none⟩ = some (.int .i64 (fst1 V k)) := fun d => HFC.out k hkn
      have hfb := fst1_le V k
      have htb := tot_le_sides k (fst1 V) 30 (fun x => by have := fst1_le V x; omega)
      have ht2 := tot_succ k (fst1 V)
      clear hx1 hx3
      generalize tot (sides k) (fst1 V) = T at *
      go_wp2_with fail
      go_loopw [14, 78] (fun s i wr => ∃ j d : Nat, j ≤ n ∧ i = .int .i64 j ∧ s = .int .i64 (tot (sides j) (cnt V k)) ∧ wr = W.drewN d) (fun _ i _ => n - (intOf i).toNat)
      case atStart => exact ⟨0, _, Nat.zero_le _, rfl, rfl, rfl⟩
      case round =>
        obtain ⟨j, d2, hj, rfl, rfl, rfl⟩ := hrel
        by_cases hjn : j < n
        · obtain ⟨by_, oy, cy, hy1, hy3⟩ := HROW.out j hjn
          have r1 := hx1' d2
          have r2 : (W.drewN d2).cell? ⟨b, o + j, none⟩ = some (.slice (some ⟨by_, oy, none⟩) n cy) := hy1
          have r3 := HX3.out d2 j hjn
          have r4 : (W.drewN d2).cell? ⟨by_, oy + k, none⟩ = some (.int .i64 (cnt V j k)) := hy3 k hkn
          have q1 : W.cell? ⟨b, o + k, none⟩ = some (.slice (some ⟨bx, ox, none⟩) n cx) := r1
          have q2 : W.cell? ⟨b, o + j, none⟩ = some (.slice (some ⟨by_, oy, none⟩) n cy) := r2
          have q3 : W.cell? ⟨bx, ox + j, none⟩ = some (.int .i64 (cnt V k j)) := r3
          have q4 : W.cell? ⟨by_, oy + k, none⟩ = some (.int .i64 (cnt V j k)) := r4
          have e1 := cnt_le V k j
          have e2 := cnt_le V j k
          have e3 := tot_le_sides j (cnt V k) 30 (fun x => by have := cnt_le V k x; omega)
          have e4 := tot_succ j (cnt V k)
          have HB : Hid (k ≠ j → cnt V k j + cnt V j k = V.length) := fun h => duel_both HP.out hkn hjn h
          clear hy1 hy3 hx1' hp1 hf1
          generalize tot (sides j) (cnt V k) = S at *
          by_cases hkj : k = j
          · subst hkj
            generalize cnt V k k = ekj at *
            go_wp2_with fail
            go_quiet (fail)
            go_wp2
            go_roundw
            case rel => exact ⟨k + 1, _, by omega, by go_num, by rw [e4]; go_num, rfl⟩
            case measure => simp [intOf]; omega
          · have hb := HB.out hkj
            have hbi : ((cnt V k j : Int) + (cnt V j k : Int) != (V.length : Int)) = false := by simp; omega
            have hne : ((k : Int) != (j : Int)) = true := by simp; omega
            generalize cnt V k j = ekj at *
            generalize cnt V j k = ejk at *
            go_wp2_with fail
            go_quiet (fail)
            go_wp2
            go_roundw
            case rel => exact ⟨j + 1, _, by omega, by go_num, by rw [e4]; go_num, rfl⟩
            case measure => simp [intOf]; omega
        · obtain rfl : j = n := by omega
          have hs := sum_duels HP.out hkn
          have hs' : ((tot (sides j) (cnt V k) : Nat) : Int) = pts j V k := hs
          have hp1 := hp1 d2
          have hf1 := hf1 d2
          clear hs hx1'
          rw [← hs'] at hp1
          have hsb := tot_le_sides j (cnt V k) 30 (fun x => by have := cnt_le V k x; omega)
          generalize tot (sides j) (cnt V k) = S at *
          generalize fst1 V k = F at *
          go_wp2
          go_roundw
          case rel => exact ⟨k + 1, _, by omega, by go_num, by rw [ht2]; go_num, rfl⟩
          case measure => simp [intOf]; omega
    · obtain rfl : k = n := by omega
      rw [sum_firsts h1 HP.out]
      go_wp2
      go_ret
      exact ⟨rfl, below_drewN hbW _⟩
end Go.Proofs.Ytammnnhdhdeogaa

/-
  plumekeep.TallyTurned returns true, for every int and every slice of slices of ints, if package tally keeps its contracts; nothing that was there is written.
-/
import Derived.Test.YtammnnhdhdeogaaLawTallySums
import Derived.Test.YtammnnhdhdeogaaTurnMath
import Derived.Test.YtammnnhdhdeogaaCTurned
import Derived.Test.YtammnnhdhdeogaaCTableOf
namespace Go.Proofs.Ytammnnhdhdeogaa
open Go.RowKit Fm
set_option linter.unusedVariables false

theorem RowsOut.use {L : List (List Int)} {w w' : World} {e : Ending} (h : RowsOut L w e w') : ∃ a c, e = .returned (.slice a L.length c) ∧ L.length ≤ c ∧ c ≤ maxLen ∧ RdR w' w'.heap.size a L.length L ∧ Below w.heap.size w w' := by
  obtain ⟨v, vs, rfl, ho, he, hb⟩ := h
  obtain ⟨a, c, rfl, h1, h2⟩ : ∃ a c, v = .slice a L.length c ∧ L.length ≤ c ∧ c ≤ maxLen := by
    rcases ho.2 with ⟨hv, hn⟩ | ⟨g, cap, cur, rfl, _, _, h1, h2, _⟩
    · exact ⟨none, 0, by rw [hv, hn], by omega, by unfold maxLen; omega⟩
    · exact ⟨_, cap, rfl, h1, h2⟩
  exact ⟨a, c, rfl, h1, h2, RdR.of_own ho rfl he, hb⟩
theorem votes_ok {n : Nat} (h1 : 1 ≤ n) (h6 : n ≤ 6) {V : List (List Int)} (hl : V.length ≤ 30) (hV : ∀ p ∈ V, p.Perm (sides n)) : vchk n V = 0 :=
  vchk_ok (by omega) (by omega) (fun l hl => chk_perm (hV l hl) h1 h6)
theorem perm_lens {n : Nat} (h1 : 1 ≤ n) (h6 : n ≤ 6) {V : List (List Int)} (hV : ∀ p ∈ V, p.Perm (sides n)) : ∀ p ∈ V, 1 ≤ p.length ∧ p.length ≤ 1000 := fun p hp => by
  have := (hV p hp).length_eq; rw [sides_len] at this; omega
/-- The cells of a table of duels. -/
theorem duel_cells {n : Nat} (h1 : 1 ≤ n) {V : List (List Int)} {W : World} {B : Nat} {b o : Nat}
    (hrows : ∀ j, j < n → ∃ a' c', W.cell? ⟨b, o + j, none⟩ = some (.slice a' ((duelsM n V).getD j []).length c') ∧ ((duelsM n V).getD j []).length ≤ c' ∧ (a' = none → c' = 0) ∧ c' ≤ maxLen ∧ Rd W B a' ((duelsM n V).getD j []).length ((duelsM n V).getD j [])) :
    ∀ x, x < n → ∃ bx ox cx, W.cell? ⟨b, o + x, none⟩ = some (.slice (some ⟨bx, ox, none⟩) n cx) ∧ ∀ y, y < n → W.cell? ⟨bx, ox + y, none⟩ = some (.int .i64 (cnt V x y)) := fun x hx => by
  obtain ⟨a', c', h2, _, _, _, h5⟩ := hrows x hx
  have hxl : x < (duelsM n V).length := by rw [duelsM_len]; exact hx
  have hm : (duelsM n V).getD x [] ∈ duelsM n V := by rw [List.getD_eq_getElem?_getD, List.getElem?_eq_getElem hxl]; exact List.getElem_mem hxl
  have hln := duelsM_rows hm
  rw [hln] at h2 h5
  obtain ⟨bx, ox, rfl, h6, h7⟩ := h5.2 (by omega)
  exact ⟨bx, ox, c', h2, fun y hy => (h7 y hy).trans (by rw [← ent_duels n V hx hy]; rfl)⟩

set_option maxHeartbeats 4000000 in
set_option maxRecDepth 100000 in
theorem tallyTurned_is (C : TallyC) (n0 : Int) (hn0 : -9223372036854775808 ≤ n0) (hn1 : n0 ≤ 9223372036854775807) (v : Value) (L : List (List Int)) {w : World} (f : IsRows w v L) :
    Calls Try.prog 7 #[.int .i64 n0, v] w fun e w' => e = .returned (.bool true) ∧ Below w.heap.size w w' := by
  obtain ⟨a, c, rfl, hr, hall, hlc, _, hcm, h24⟩ := f
  have HR := Lib.hid hr
  have HO := Lib.hid (fun l hl => (hall l hl).1)
  have HC := Lib.hid C
  clear hr hall C
  go_enter Try.func7, Try.ntmps7
  go_wp2_with fail
  refine (tallies_any HC.out w).mono ?_
  rintro e w1 ⟨rfl, hb1⟩
  have z1 := hb1.size
  go_wp2_with fail
  refine (within_any n0 6 w1 hn0 hn1 (by omega) (by omega)).mono ?_
  rintro e w1' ⟨rfl, rfl⟩
  obtain ⟨n, hn⟩ : ∃ n : Nat, 1 + n0 % 6 = n := ⟨(1 + n0 % 6).toNat, by omega⟩
  have h1 : 1 ≤ n := by omega
  have h6 : n ≤ 6 := by omega
  have e6 : n0 % 6 = (n : Int) - 1 := by omega
  rw [e6]
  clear hn e6 hn0 hn1
  go_wp2_with fail
  rw [show 1 + ((n : Int) - 1) = n by omega]
  refine (votesOf_any n a L.length c L w1 ((HR.out.below hb1 (Nat.le_refl _)).more z1) hlc hcm h1 h6 HO.out).mono ?_
  rintro e w2 h
  obtain ⟨va, vc, rfl, _, _, hrV, hb2⟩ := h.use
  clear h
  have z2 := hb2.size
  have hb02 := hb1.trans (hb2.mono z1)
  have HV30 := votesOf_len n L
  have HP := Lib.hid (fun p (hp : p ∈ votesOf n L) => votesOf_mem hp)
  have HOK := Lib.hid (votesOf_ok h1 h6 L)
  have RV := Lib.hid hrV
  generalize votesOf n L = V at *
  have hV30 : V.length ≤ 30 := by omega
  clear HV30 hrV hb1 hb2 HR HO hlc hcm h24
  go_wp2_with fail
  refine (HC.out.duels n va V.length vc V w2 w2.heap.size (Nat.le_refl _) RV.out (by omega) HOK.out).mono ?_
  rintro e w3 ⟨a3, c3, rfl, _, _, rM, hb3⟩
  rw [duelsM_len] at rM ⊢
  have z3 := hb3.size
  have hb03 := hb02.trans (hb3.mono (by omega))
  have HPL := Lib.hid (perm_lens h1 h6 HP.out)
  have HPT := Lib.hid (turned_mem HP.out)
  have hlt : (V.map List.reverse).length = V.length := List.length_map ..
  have HTOK := Lib.hid (votes_ok h1 h6 (by omega) HPT.out)
  have HCT : Hid (∀ x y : Nat, x < n → y < n → cnt (V.map List.reverse) y x = cnt V x y) := fun x y hx hy => cnt_turned HP.out hx hy
  have HTT : Hid (∀ x : Nat, x < n → pts n V x + pts n (V.map List.reverse) x = ((n : Int) - 1) * V.length) := fun x hx => pts_turned HP.out hx
  have HTA : Hid (∀ W : World, Below w2.heap.size w2 W → Calls Try.prog 27 #[.slice va V.length vc] W (RowsOut (V.map List.reverse) W)) := fun W hW =>
    turned_any va vc V W w2.heap.size hW.size (RV.out.below hW (Nat.le_refl _)) (by omega) HPL.out
  generalize V.map List.reverse = U at *
  go_wp2_with fail
  refine (HTA.out w3 hb3).mono ?_
  rintro e w4 h
  obtain ⟨t1, d1, rfl, _, _, hrT, hb4⟩ := h.use
  rw [hlt] at hrT ⊢
  clear h
  have z4 := hb4.size
  have hb24 := hb3.trans (hb4.mono (by omega))
  have RT := Lib.hid hrT
  clear hrT
  go_wp2_with fail
  refine (HC.out.duels n t1 V.length d1 U w4 w4.heap.size (Nat.le_refl _) RT.out (by omega) HTOK.out).mono ?_
  rintro e w5 ⟨a5, c5, rfl, _, _, rN, hb5⟩
  rw [duelsM_len] at rN ⊢
  have z5 := hb5.size
  have hb25 := hb24.trans (hb5.mono (by omega))
  have hb35 := hb4.trans (hb5.mono (by omega))
  go_wp2_with fail
  refine (HC.out.points n va V.length vc V w5 w2.heap.size (by omega) (RV.out.below hb25 (Nat.le_refl _)) (by omega) HOK.out).mono ?_
  rintro e w6 ⟨a6, c6, rfl, _, _, rP, hb6⟩
  have hpl : (pointsL n V).length = n := by simp [pointsL, sides_len]
  rw [hpl] at rP ⊢
  have z6 := hb6.size
  have hb26 := hb25.trans (hb6.mono (by omega))
  go_wp2_with fail
  refine (HTA.out w6 hb26).mono ?_
  rintro e w7 h
  obtain ⟨t2, d2, rfl, _, _, hrT, hb7⟩ := h.use
  rw [hlt] at hrT ⊢
  clear h
  have z7 := hb7.size
  have RT2 := Lib.hid hrT
  clear hrT RT
  go_wp2_with fail
  refine (HC.out.points n t2 V.length d2 U w7 w7.heap.size (Nat.le_refl _) RT2.out (by omega) HTOK.out).mono ?_
  rintro e w8 ⟨a8, c8, rfl, _, _, rQ, hb8⟩
  have hql : (pointsL n U).length = n := by simp [pointsL, sides_len]
  rw [hql] at rQ ⊢
  have z8 := hb8.size
  have hb68 := hb7.trans (hb8.mono (by omega))
  have hb58 := hb6.trans (hb68.mono (by omega))
  have hb38 := hb35.trans (hb58.mono (by omega))
  have hb08 := hb03.trans (hb38.mono (by omega))
  have RM := Lib.hid ((rM.below hb38 (Nat.le_refl _)).more (B' := w8.heap.size) (by omega))
  have RN := Lib.hid ((rN.below hb58 (Nat.le_refl _)).more (B' := w8.heap.size) (by omega))
  have RP := Lib.hid ((rP.below hb68 (Nat.le_refl _)).more (B' := w8.heap.size) (by omega))
  have RQ := Lib.hid rQ
  clear rM rN rP rQ hb3 hb4 hb5 hb6 hb7 hb8 hb24 hb25 hb26 hb35 hb68 hb58 hb38 hb03 hb02 HC HOK HTOK RV RT2 hpl hql HPL
  go_wp2_with fail
  refine (good_zero w8.heap.size 0 4 4 _ (by omega) (zeros_at w8 23 4 #[.int .i64 0, .int .i64 0, .int .i64 0, .int .i64 0] rfl)).mono ?_
  rintro e w9 ⟨rfl, rfl⟩
  go_wp2_with fail
  obtain ⟨W0, hW0⟩ : ∃ W0 : World, W0 = w8.alloc (.cells #[.int .i64 0, .int .i64 0, .int .i64 0, .int .i64 0] 23) := ⟨_, rfl⟩
  have hb80 : Below w8.heap.size w8 W0 := by rw [hW0]; exact (Below.refl _ _).alloc (Nat.le_refl _) _
  rw [← hW0]
  clear hW0
  have z0 := hb80.size
  refine (tableOf_true n a3 c3 _ W0 w8.heap.size z0 (by omega) (RM.out.below hb80 (Nat.le_refl _)) (fun l hl => duelsM_rows hl)).mono ?_
  rintro e w9 ⟨rfl, hb9⟩
  have z9 := hb9.size
  have hb89 := hb80.trans (hb9.mono (by omega))
  go_wp2_with fail
  refine (tableOf_true n a5 c5 _ w9 w8.heap.size (by omega) (by omega) (RN.out.below hb89 (Nat.le_refl _)) (fun l hl => duelsM_rows hl)).mono ?_
  rintro e W ⟨rfl, hbA⟩
  have zA := hbA.size
  have hb8A := hb89.trans (hbA.mono (by omega))
  have hbW := hb08.trans (hb8A.mono (by omega))
  obtain ⟨b, o, rfl, hbB, hrows⟩ := (RM.out.below hb8A (Nat.le_refl _)).2 (by omega)
  obtain ⟨b', o', rfl, hbB', hrows'⟩ := (RN.out.below hb8A (Nat.le_refl _)).2 (by omega)
  obtain ⟨pb, po, rfl, hpB, hpc⟩ := (RP.out.below hb8A (Nat.le_refl _)).2 (by omega)
  obtain ⟨qb, qo, rfl, hqB, hqc⟩ := (RQ.out.below hb8A (Nat.le_refl _)).2 (by omega)
  have HROW := Lib.hid (duel_cells h1 hrows)
  have HROW' := Lib.hid (duel_cells h1 hrows')
  have HPC : Hid (∀ x, x < n → W.cell? ⟨pb, po + x, none⟩ = some (.int .i64 (pts n V x))) := fun x hx => (hpc x hx).trans (by unfold pointsL; rw [map_sides_getD n _ hx])
  have HQC : Hid (∀ x, x < n → W.cell? ⟨qb, qo + x, none⟩ = some (.int .i64 (pts n U x))) := fun x hx => (hqc x hx).trans (by unfold pointsL; rw [map_sides_getD n _ hx])
  clear hrows hrows' hpc hqc RM RN RP RQ hb80 hb9 hb89 hbA hb8A hb08 HTA
  go_wp2_with fail
  go_loopw [82] (fun i wr => ∃ k d : Nat, k ≤ n ∧ i = .int .i64 k ∧ wr = W.drewN d) (fun i _ => n - (intOf i).toNat)
  case atStart => exact ⟨0, 0, Nat.zero_le _, rfl, rfl⟩
  case round =>
    obtain ⟨k, d, hk, rfl, rfl⟩ := hrel
    by_cases hkn : k < n
    · obtain ⟨bx, ox, cx, hx1, hx3⟩ := HROW.out k hkn
      have HX3 := Lib.hid hx3
      clear hx3
      go_wp2_with fail
      go_loopw [86] (fun i wr => ∃ j d : Nat, j ≤ n ∧ i = .int .i64 j ∧ wr = W.drewN d) (fun i _ => n - (intOf i).toNat)
      case atStart => exact ⟨0, _, Nat.zero_le _, rfl, rfl⟩
      case round =>
        obtain ⟨j, d2, hj, rfl, rfl⟩ := hrel
        by_cases hjn : j < n
        · obtain ⟨by_, oy, cy, hy1, hy3⟩ := HROW'.out j hjn
          have q3 := HX3.out j hjn
          have q4 := hy3 k hkn
          rw [HCT.out k j hkn hjn] at q4
          clear hy3
          generalize cnt V k j = ekj at *
          go_wp2_with fail
          go_quiet (fail)
          go_wp2
          go_roundw
          case rel => exact ⟨j + 1, _, by omega, by go_num, rfl⟩
          case measure => simp [intOf]; omega
        · obtain rfl : j = n := by omega
          have q1 := HPC.out k hkn
          have q2 := HQC.out k hkn
          have hs := HTT.out k hkn
          have b1 := pts_bd HP.out hkn hV30 h6
          have b2 := pts_bd HPT.out hkn (by omega) h6
          generalize pts j V k = A at *
          generalize pts j U k = A' at *
          have hse : (A + A' != ((j : Int) - 1) * V.length) = false := by rw [hs]; simp
          have hw0 : 0 ≤ ((j : Int) - 1) * V.length := by rw [← hs]; omega
          have hw1 : ((j : Int) - 1) * V.length ≤ 360 := by rw [← hs]; omega
          clear hs hx1
          go_wp2_with fail
          go_quiet (fail)
          go_wp2
          go_roundw
          case rel => exact ⟨k + 1, _, by omega, by go_num, rfl⟩
          case measure => simp [intOf]; omega
    · obtain rfl : k = n := by omega
      go_wp2
      go_ret
      exact ⟨rfl, below_drewN hbW _⟩
end Go.Proofs.Ytammnnhdhdeogaa

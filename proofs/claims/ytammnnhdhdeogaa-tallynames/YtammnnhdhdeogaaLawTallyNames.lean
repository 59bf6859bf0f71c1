/-
  plumekeep.TallyNames returns true, for every int, every slice of slices of ints and every slice of ints, if package tally keeps its contracts; nothing that was there is written.
-/
import Derived.Test.YtammnnhdhdeogaaLawTallySums
import Derived.Test.YtammnnhdhdeogaaLawTallyTurned
import Derived.Test.YtammnnhdhdeogaaNameMath
import Derived.Test.YtammnnhdhdeogaaCReverseRows
namespace Go.Proofs.Ytammnnhdhdeogaa
open Go.RowKit Fm
set_option linter.unusedVariables false

set_option maxHeartbeats 4000000 in
set_option maxRecDepth 100000 in
theorem tallyNames_is (C : TallyC) (n0 : Int) (hn0 : -9223372036854775808 ≤ n0) (hn1 : n0 ≤ 9223372036854775807) (v : Value) (L : List (List Int)) {w : World} (f : IsRows w v L) (u : Value) (X : List Int) (fx : IsInts w u X) :
    Calls Try.prog 6 #[.int .i64 n0, v, u] w fun e w' => e = .returned (.bool true) ∧ Below w.heap.size w w' := by
  obtain ⟨a, c, rfl, hr, hall, hlc, _, hcm, h24⟩ := f
  obtain ⟨ax, cx, rfl, hrx, hox, hlx, _, hcx, h8x⟩ := fx
  have HRX := Lib.hid hrx
  have HOX := Lib.hid hox
  clear hrx hox
  have HR := Lib.hid hr
  have HO := Lib.hid (fun l hl => (hall l hl).1)
  have HC := Lib.hid C
  clear hr hall C
  go_enter Try.func6, Try.ntmps6
  go_wp2_with fail
  refine (tallies_any HC.out w).mono ?_
  rintro e w1 ⟨rfl, hb1⟩
  have z1 := hb1.size
  go_wp2_with fail
  refine (within_any n0 6 w1 hn0 hn1 (by omega) (by omega)).mono ?_
  rintro e w1' ⟨rfl, rfl⟩
  obtain ⟨n, hn⟩ : ∃ n : Nat, 1 + n0 % 6 = n := ⟨(1 + n0 % 6).toNat, by omega⟩
  have h1 : 1 ≤ n := by omega
  have h6 : n ≤ 6 := by omega
  have e6 : n0 % 6 = (n : Int) - 1 := by omega
  rw [e6]
  clear hn e6 hn0 hn1
  go_wp2_with fail
  rw [show 1 + ((n : Int) - 1) = n by omega]
  refine (votesOf_any n a L.length c L w1 ((HR.out.below hb1 (Nat.le_refl _)).more z1) hlc hcm h1 h6 HO.out).mono ?_
  rintro e w2 h
  obtain ⟨va, vc, rfl, _, _, hrV, hb2⟩ := h.use
  clear h
  have z2 := hb2.size
  have hb02 := hb1.trans (hb2.mono z1)
  have HV30 := votesOf_len n L
  have HP := Lib.hid (fun p (hp : p ∈ votesOf n L) => votesOf_mem hp)
  have HOK := Lib.hid (votesOf_ok h1 h6 L)
  have RV := Lib.hid hrV
  generalize votesOf n L = V at *
  have hV30 : V.length ≤ 30 := by omega
  clear HV30 hrV hb1 hb2 HR HO hlc hcm h24
  go_wp2_with fail
  refine (orderOf_any n ax X.length cx X w2 w.heap.size (by omega) (HRX.out.below hb02 (Nat.le_refl _)) h1 h6 HOX.out).mono ?_
  rintro e w3 ⟨v1, rfl, o1, hb3⟩
  obtain ⟨p1, cp, rfl, hcp, _⟩ := own_slice o1
  have z3 := hb3.size
  have hb03 := hb02.trans (hb3.mono (by omega))
  have HNP := Lib.hid (ordOf_perm n X)
  have RX := Lib.hid (Rd.of_own o1)
  generalize ordOf n X = N at *
  clear o1 HRX HOX hlx hcx h8x
  have RV3 := Lib.hid ((RV.out.below hb3 (Nat.le_refl _)).more z3)
  clear RV hb3 hb02
  have HPL : Hid (∀ p ∈ V, 1 ≤ p.length ∧ p.length ≤ 1000 ∧ ∀ x ∈ p, 0 ≤ x ∧ x < n) := fun p hp => ⟨(perm_lens h1 h6 HP.out p hp).1, (perm_lens h1 h6 HP.out p hp).2, fun x hx => mem_sides.1 ((HP.out p hp).mem_iff.1 hx)⟩
  go_wp2_with fail
  refine (renamed_any va p1 vc n cp V N w3 w3.heap.size (Nat.le_refl _) RV3.out RX.out (by omega) (by omega) HPL.out).mono ?_
  rintro e w4 ⟨v4, vs4, rfl, o4, e4, hb4⟩
  have hlt : (V.map (renL N)).length = V.length := List.length_map ..
  obtain ⟨t1, d1, rfl, _, _, hrev⟩ := reverseR_rows o4 e4 hb4 (by omega)
  have HREV := Lib.hid hrev
  have HUP := Lib.hid (other_mem HNP.out HP.out)
  have hlU := other_len N V
  have HUOK := Lib.hid (votes_ok h1 h6 (by omega) HUP.out)
  have HBO : Hid (∀ x x' : Nat, x < n → N.getD x 0 = x' → (Beats n (other N V) x' ↔ Beats n V x)) := fun x x' hx hx' => beats_other HNP.out HP.out hx hx'
  have HFO : Hid (∀ x : Nat, x < n → fst1 (other N V) (N.getD x 0) = fst1 V x) := fun x hx => fst1_other HNP.out HP.out hx
  have HPO : Hid (∀ x : Nat, x < n → pts n (other N V) (N.getD x 0) = pts n V x) := fun x hx => pts_other HNP.out HP.out hx
  have eO : (V.map (renL N)).reverse = other N V := rfl
  rw [eO] at HREV
  rw [hlt] at HREV ⊢
  clear hrev o4 e4 hb4 eO hlt HPL
  generalize other N V = U at *
  go_wp2_with fail
  refine HREV.out.mono ?_
  rintro e w5 ⟨rfl, rU, hb5⟩
  have z5 := hb5.size
  have hb05 := hb03.trans (hb5.mono (by omega))
  have RU := Lib.hid rU
  have RV5 := Lib.hid ((RV3.out.below hb5 (Nat.le_refl _)).more z5)
  have RX5 := Lib.hid ((RX.out.below hb5 (Nat.le_refl _)).more z5)
  clear rU RV3 RX hb03 hb5 HREV
  go_wp2_with fail
  refine (HC.out.points n va V.length vc V w5 w5.heap.size (Nat.le_refl _) RV5.out (by omega) HOK.out).mono ?_
  rintro e w6 ⟨a6, c6, rfl, _, _, r6, hb6⟩
  have hl6 : (pointsL n V).length = n := by simp [pointsL, sides_len]
  rw [hl6] at r6 ⊢
  have z6 := hb6.size
  go_wp2_with fail
  refine (HC.out.points n t1 V.length d1 U w6 w5.heap.size z6 (RU.out.below hb6 (Nat.le_refl _)) (by omega) HUOK.out).mono ?_
  rintro e w7 ⟨a7, c7, rfl, _, _, r7, hb7⟩
  have hl7 : (pointsL n U).length = n := by simp [pointsL, sides_len]
  rw [hl7] at r7 ⊢
  have z7 := hb7.size
  have hb57 := hb6.trans (hb7.mono z6)
  go_wp2_with fail
  refine (HC.out.firsts n va V.length vc V w7 w5.heap.size (by omega) (RV5.out.below hb57 (Nat.le_refl _)) (by omega) HOK.out).mono ?_
  rintro e w8 ⟨a8, c8, rfl, _, _, r8, hb8⟩
  have hl8 : (firstsL n V).length = n := by simp [firstsL, sides_len]
  rw [hl8] at r8 ⊢
  have z8 := hb8.size
  have hb58 := hb57.trans (hb8.mono (by omega))
  have hb68 := hb7.trans (hb8.mono (by omega))
  go_wp2_with fail
  refine (HC.out.firsts n t1 V.length d1 U w8 w5.heap.size (by omega) (RU.out.below hb58 (Nat.le_refl _)) (by omega) HUOK.out).mono ?_
  rintro e w9 ⟨a9, c9, rfl, _, _, r9, hb9⟩
  have hl9 : (firstsL n U).length = n := by simp [firstsL, sides_len]
  rw [hl9] at r9 ⊢
  have z9 := hb9.size
  have hb59 := hb58.trans (hb9.mono (by omega))
  have hb69 := hb68.trans (hb9.mono (by omega))
  have hb79 := hb8.trans (hb9.mono (by omega))
  have hb09 := hb05.trans (hb59.mono (by omega))
  have R6 := Lib.hid ((r6.below hb69 (Nat.le_refl _)).more (B' := w9.heap.size) (by omega))
  have R7 := Lib.hid ((r7.below hb79 (Nat.le_refl _)).more (B' := w9.heap.size) (by omega))
  have R8 := Lib.hid ((r8.below hb9 (Nat.le_refl _)).more (B' := w9.heap.size) (by omega))
  have R9 := Lib.hid r9
  have RX9 := Lib.hid ((RX5.out.below hb59 (Nat.le_refl _)).more (B' := w9.heap.size) (by omega))
  have RV9 := Lib.hid ((RV5.out.below hb59 (Nat.le_refl _)).more (B' := w9.heap.size) (by omega))
  have RU9 := Lib.hid ((RU.out.below hb59 (Nat.le_refl _)).more (B' := w9.heap.size) (by omega))
  clear r6 r7 r8 r9 RX5 RV5 RU hl6 hl7 hl8 hl9 hb6 hb7 hb8 hb9 hb57 hb58 hb68 hb59 hb69 hb79 hb05
  obtain ⟨bx, bx', be, hbc, hbc', hbt⟩ : ∃ bx bx' be : Int, (∀ W : World, Below w9.heap.size w9 W → Calls Try.prog 11 #[.int .i64 n, .slice va V.length vc] W fun e w' => e = .returned (.tuple #[.int .i64 bx, .int .i64 be]) ∧ Below W.heap.size W w') ∧
      (∀ W : World, Below w9.heap.size w9 W → Calls Try.prog 11 #[.int .i64 n, .slice t1 V.length d1] W fun e w' => e = .returned (.tuple #[.int .i64 bx', .int .i64 be]) ∧ Below W.heap.size W w') ∧
      ((∃ x y : Nat, x < n ∧ y < n ∧ N.getD x 0 = y ∧ bx = x ∧ bx' = y ∧ be = 0) ∨ (bx = 0 ∧ bx' = 0 ∧ be = 4)) := by
    by_cases hex : ∃ x, Beats n V x
    · obtain ⟨x, hx⟩ := hex
      obtain ⟨y, hy, hye⟩ := names_getD HNP.out hx.1
      exact ⟨x, y, 0, fun W hW => HC.out.beaterY n va V.length vc V W w9.heap.size x hW.size (RV9.out.below hW (Nat.le_refl _)) (by omega) HOK.out hx,
        fun W hW => HC.out.beaterY n t1 V.length d1 U W w9.heap.size y hW.size (RU9.out.below hW (Nat.le_refl _)) (by omega) HUOK.out ((HBO.out x y hx.1 hye).2 hx), .inl ⟨x, y, hx.1, hy, hye, rfl, rfl, rfl⟩⟩
    · have hno : ∀ x, ¬ Beats n V x := fun x hx => hex ⟨x, hx⟩
      have hno' : ∀ x, ¬ Beats n U x := fun y hy => by
        obtain ⟨x, hx, hxe⟩ := names_onto HNP.out hy.1
        exact hno x ((HBO.out x y hx hxe).1 hy)
      exact ⟨0, 0, 4, fun W hW => HC.out.beaterN n va V.length vc V W w9.heap.size hW.size (RV9.out.below hW (Nat.le_refl _)) (by omega) HOK.out hno,
        fun W hW => HC.out.beaterN n t1 V.length d1 U W w9.heap.size hW.size (RU9.out.below hW (Nat.le_refl _)) (by omega) HUOK.out hno', .inr ⟨rfl, rfl, rfl⟩⟩
  have HB1 := Lib.hid hbc
  have HB2 := Lib.hid hbc'
  clear hbc hbc' HC HOK HUOK RV9 RU9 HBO HUP HP
  go_wp2_with fail
  refine (HB1.out w9 (Below.refl _ _)).mono ?_
  rintro e w10 ⟨rfl, hb10⟩
  have z10 := hb10.size
  go_wp2_with fail
  refine (HB2.out w10 hb10).mono ?_
  rintro e w11 ⟨rfl, hb11⟩
  have z11 := hb11.size
  have hb911 := hb10.trans (hb11.mono (by omega))
  clear hb10 hb11 HB1 HB2
  obtain ⟨W, hW⟩ : ∃ W : World, W = w11.alloc (.cells #[.int .i64 0, .int .i64 0, .int .i64 0, .int .i64 0] 23) := ⟨_, rfl⟩
  have hb9W : Below w9.heap.size w9 W := by rw [hW]; exact hb911.alloc (by omega) _
  have zW := hb9W.size
  have hbW := hb09.trans (hb9W.mono (by omega))
  obtain ⟨b6, o6, rfl, _, hc6⟩ := (R6.out.below hb9W (Nat.le_refl _)).2 (by omega)
  obtain ⟨b7, o7, rfl, _, hc7⟩ := (R7.out.below hb9W (Nat.le_refl _)).2 (by omega)
  obtain ⟨b8, o8, rfl, _, hc8⟩ := (R8.out.below hb9W (Nat.le_refl _)).2 (by omega)
  obtain ⟨b9, o9, rfl, _, hc9⟩ := (R9.out.below hb9W (Nat.le_refl _)).2 (by omega)
  obtain ⟨bn, on, rfl, _, hcn⟩ := (RX9.out.below hb9W (Nat.le_refl _)).2 (by omega)
  have C6 : Hid (∀ x, x < n → W.cell? ⟨b6, o6 + x, none⟩ = some (.int .i64 (pts n V x))) := fun x hx => (hc6 x hx).trans (by unfold pointsL; rw [map_sides_getD n _ hx])
  have C7 : Hid (∀ x, x < n → W.cell? ⟨b7, o7 + x, none⟩ = some (.int .i64 (pts n U x))) := fun x hx => (hc7 x hx).trans (by unfold pointsL; rw [map_sides_getD n _ hx])
  have C8 : Hid (∀ x, x < n → W.cell? ⟨b8, o8 + x, none⟩ = some (.int .i64 (fst1 V x))) := fun x hx => (hc8 x hx).trans (by unfold firstsL; rw [map_sides_getD n _ hx])
  have C9 : Hid (∀ x, x < n → W.cell? ⟨b9, o9 + x, none⟩ = some (.int .i64 (fst1 U x))) := fun x hx => (hc9 x hx).trans (by unfold firstsL; rw [map_sides_getD n _ hx])
  have CN := Lib.hid hcn
  clear hc6 hc7 hc8 hc9 hcn R6 R7 R8 R9 RX9 hb911 hb9W hb09
  rcases hbt with ⟨x, y, hx, hy, hye, rfl, rfl, rfl⟩ | ⟨rfl, rfl, rfl⟩
  · have hcx := CN.out x hx
    rw [hye] at hcx
    clear hye
    go_wp2_with fail
    refine (good_zero w11.heap.size 0 4 4 _ (by omega) (zeros_at w11 23 4 #[.int .i64 0, .int .i64 0, .int .i64 0, .int .i64 0] rfl)).mono ?_
    rintro e w12 ⟨rfl, rfl⟩
    rw [← hW]
    clear hW
    go_wp2_with fail
    try clear hcx hx hy
    go_loopw [133] (fun i wr => ∃ k d : Nat, k ≤ n ∧ i = .int .i64 k ∧ wr = W.drewN d) (fun i _ => n - (intOf i).toNat)
    case atStart => exact ⟨0, 0, Nat.zero_le _, rfl, rfl⟩
    case round =>
      obtain ⟨k, d, hk, rfl, rfl⟩ := hrel
      by_cases hkn : k < n
      · obtain ⟨y, hy, hye⟩ := names_getD HNP.out hkn
        have q0 := CN.out k hkn
        have q1 := C6.out k hkn
        have q2 := C7.out y hy
        have q3 := C8.out k hkn
        have q4 := C9.out y hy
        have e1 := HPO.out k hkn
        have e2 := HFO.out k hkn
        rw [hye] at q0 e1 e2
        rw [e1] at q2
        rw [e2] at q4
        clear hye e1 e2
        generalize pts n V k = A at *
        generalize fst1 V k = F at *
        go_wp2_with fail
        go_quiet (fail)
        go_wp2
        go_roundw
        case rel => exact ⟨k + 1, _, by omega, by go_num, rfl⟩
        case measure => simp [intOf]; omega
      · obtain rfl : k = n := by omega
        go_wp2
        go_ret
        exact ⟨rfl, below_drewN hbW _⟩
  · go_wp2_with fail
    refine (good_zero w11.heap.size 0 4 4 _ (by omega) (zeros_at w11 23 4 #[.int .i64 0, .int .i64 0, .int .i64 0, .int .i64 0] rfl)).mono ?_
    rintro e w12 ⟨rfl, rfl⟩
    rw [← hW]
    clear hW
    go_wp2_with fail
    try clear hcx hx hy
    go_loopw [133] (fun i wr => ∃ k d : Nat, k ≤ n ∧ i = .int .i64 k ∧ wr = W.drewN d) (fun i _ => n - (intOf i).toNat)
    case atStart => exact ⟨0, 0, Nat.zero_le _, rfl, rfl⟩
    case round =>
      obtain ⟨k, d, hk, rfl, rfl⟩ := hrel
      by_cases hkn : k < n
      · obtain ⟨y, hy, hye⟩ := names_getD HNP.out hkn
        have q0 := CN.out k hkn
        have q1 := C6.out k hkn
        have q2 := C7.out y hy
        have q3 := C8.out k hkn
        have q4 := C9.out y hy
        have e1 := HPO.out k hkn
        have e2 := HFO.out k hkn
        rw [hye] at q0 e1 e2
        rw [e1] at q2
        rw [e2] at q4
        clear hye e1 e2
        generalize pts n V k = A at *
        generalize fst1 V k = F at *
        go_wp2_with fail
        go_quiet (fail)
        go_wp2
        go_roundw
        case rel => exact ⟨k + 1, _, by omega, by go_num, rfl⟩
        case measure => simp [intOf]; omega
      · obtain rfl : k = n := by omega
        go_wp2
        go_ret
        exact ⟨rfl, below_drewN hbW _⟩
end Go.Proofs.Ytammnnhdhdeogaa

/-
  plumekeep.TallyBeater returns true, for every int and every slice of slices of ints, if package tally keeps its contracts; nothing that was there is written.
-/
import Derived.Test.YtammnnhdhdeogaaLawTallySums
namespace Go.Proofs.Ytammnnhdhdeogaa
open Go.RowKit Fm
set_option linter.unusedVariables false

/-- Whether the first j sides other than k have fewer votes against k than k has against them. -/
def allTo (V : List (List Int)) (k : Nat) : Nat → Bool
  | 0 => true
  | j + 1 => allTo V k j && (decide (k = j) || decide (cnt V j k < cnt V k j))
theorem allTo_iff (V : List (List Int)) (k j : Nat) : allTo V k j = true ↔ ∀ y : Nat, y < j → y ≠ k → cnt V y k < cnt V k y := by
  induction j with
  | zero => simp [allTo]
  | succ j ih =>
    simp only [allTo, Bool.and_eq_true, Bool.or_eq_true, decide_eq_true_eq, ih]
    constructor
    · rintro ⟨h1, h2⟩ y hy hne
      by_cases e : y = j
      · subst e; rcases h2 with h2 | h2
        · omega
        · exact h2
      · exact h1 y (by omega) hne
    · intro h
      refine ⟨fun y hy hne => h y (by omega) hne, ?_⟩
      by_cases e : k = j
      · exact .inl e
      · exact .inr (h j (by omega) (fun e' => e e'.symm))
theorem allTo_beats {n : Nat} {V : List (List Int)} {k : Nat} (hk : k < n) : allTo V k n = true ↔ Beats n V k :=
  (allTo_iff V k n).trans ⟨fun h => ⟨hk, h⟩, fun h => h.2⟩

set_option maxHeartbeats 4000000 in
set_option maxRecDepth 100000 in
theorem tallyBeater_is (C : TallyC) (n0 : Int) (hn0 : -9223372036854775808 ≤ n0) (hn1 : n0 ≤ 9223372036854775807) (v : Value) (L : List (List Int)) {w : World} (f : IsRows w v L) :
    Calls Try.prog 5 #[.int .i64 n0, v] w fun e w' => e = .returned (.bool true) ∧ Below w.heap.size w w' := by
  obtain ⟨a, c, rfl, hr, hall, hlc, _, hcm, h24⟩ := f
  have HR := Lib.hid hr
  have HO := Lib.hid (fun l hl => (hall l hl).1)
  have HC := Lib.hid C
  clear hr hall C
  go_enter Try.func5, Try.ntmps5
  go_wp2_with fail
  refine (tallies_any HC.out w).mono ?_
  rintro e w1 ⟨rfl, hb1⟩
  have z1 := hb1.size
  go_wp2_with fail
  refine (within_any n0 6 w1 hn0 hn1 (by omega) (by omega)).mono ?_
  rintro e w1' ⟨rfl, rfl⟩
  obtain ⟨n, hn⟩ : ∃ n : Nat, 1 + n0 % 6 = n := ⟨(1 + n0 % 6).toNat, by omega⟩
  have h1 : 1 ≤ n := by omega
  have h6 : n ≤ 6 := by omega
  have e6 : n0 % 6 = (n : Int) - 1 := by omega
  rw [e6]
  clear hn e6 hn0 hn1
  go_wp2_with fail
  rw [show 1 + ((n : Int) - 1) = n by omega]
  refine (votesOf_any n a L.length c L w1 ((HR.out.below hb1 (Nat.le_refl _)).more z1) hlc hcm h1 h6 HO.out).mono ?_
  rintro e w2 h
  obtain ⟨va, vc, rfl, _, _, hrV, hb2⟩ := h.use
  clear h
  have z2 := hb2.size
  have hb02 := hb1.trans (hb2.mono z1)
  have HV30 := votesOf_len n L
  have HP := Lib.hid (fun p (hp : p ∈ votesOf n L) => votesOf_mem hp)
  have HOK := Lib.hid (votesOf_ok h1 h6 L)
  have RV := Lib.hid hrV
  generalize votesOf n L = V at *
  have hV30 : V.length ≤ 30 := by omega
  clear HV30 hrV hb1 hb2 HR HO hlc hcm h24
  go_wp2_with fail
  refine (HC.out.duels n va V.length vc V w2 w2.heap.size (Nat.le_refl _) RV.out (by omega) HOK.out).mono ?_
  rintro e w3 ⟨a3, c3, rfl, _, _, rM, hb3⟩
  rw [duelsM_len] at rM ⊢
  have z3 := hb3.size
  have hb03 := hb02.trans (hb3.mono (by omega))
  obtain ⟨bx, be, hbc, hbt⟩ : ∃ bx be : Int, (∀ W : World, Below w2.heap.size w2 W → Calls Try.prog 11 #[.int .i64 n, .slice va V.length vc] W fun e w' => e = .returned (.tuple #[.int .i64 bx, .int .i64 be]) ∧ Below W.heap.size W w') ∧
      ((∃ x : Nat, Beats n V x ∧ bx = x ∧ be = 0) ∨ ((∀ x, ¬ Beats n V x) ∧ bx = 0 ∧ be = 4)) := by
    by_cases hex : ∃ x, Beats n V x
    · obtain ⟨x, hx⟩ := hex
      exact ⟨x, 0, fun W hW => HC.out.beaterY n va V.length vc V W w2.heap.size x hW.size (RV.out.below hW (Nat.le_refl _)) (by omega) HOK.out hx, .inl ⟨x, hx, rfl, rfl⟩⟩
    · have hno : ∀ x, ¬ Beats n V x := fun x hx => hex ⟨x, hx⟩
      exact ⟨0, 4, fun W hW => HC.out.beaterN n va V.length vc V W w2.heap.size hW.size (RV.out.below hW (Nat.le_refl _)) (by omega) HOK.out hno, .inr ⟨hno, rfl, rfl⟩⟩
  have HBC := Lib.hid hbc
  have HBT := Lib.hid hbt
  clear hbc hbt
  go_wp2_with fail
  refine (HBC.out w3 hb3).mono ?_
  rintro e W ⟨rfl, hb4⟩
  have z4 := hb4.size
  have hbW := hb03.trans (hb4.mono (by omega))
  have QM := Lib.hid ((rM.below hb4 (Nat.le_refl _)).more (B' := W.heap.size) (by omega))
  clear rM hb3 hb4 hb03 hb02 HC HOK RV HBC
  obtain ⟨b, o, rfl, hbB, hrows⟩ := QM.out.2 (by omega)
  have HROW : Hid (∀ x, x < n → ∃ bx ox cx, W.cell? ⟨b, o + x, none⟩ = some (.slice (some ⟨bx, ox, none⟩) n cx) ∧ ∀ y, y < n → W.cell? ⟨bx, ox + y, none⟩ = some (.int .i64 (cnt V x y))) := fun x hx => by
    obtain ⟨a', c', h2, _, _, _, h5⟩ := hrows x hx
    have hxl : x < (duelsM n V).length := by rw [duelsM_len]; exact hx
    have hm : (duelsM n V).getD x [] ∈ duelsM n V := by rw [List.getD_eq_getElem?_getD, List.getElem?_eq_getElem hxl]; exact List.getElem_mem hxl
    have hln := duelsM_rows hm
    rw [hln] at h2 h5
    obtain ⟨bx, ox, rfl, h6, h7⟩ := h5.2 (by omega)
    exact ⟨bx, ox, c', h2, fun y hy => (h7 y hy).trans (by rw [← ent_duels n V hx hy]; rfl)⟩
  clear hrows QM
  go_wp2_with fail
  go_loopw [42] (fun i wr => ∃ k d : Nat, k ≤ n ∧ i = .int .i64 k ∧ wr = W.drewN d) (fun i _ => n - (intOf i).toNat)
  case atStart => exact ⟨0, 0, Nat.zero_le _, rfl, rfl⟩
  case round =>
    obtain ⟨k, d, hk, rfl, rfl⟩ := hrel
    by_cases hkn : k < n
    · obtain ⟨ba, oa, ca, hx1, hx3⟩ := HROW.out k hkn
      have HX3 := Lib.hid hx3
      clear hx3
      go_wp2_with fail
      go_loopw [11, 46] (fun s i wr => ∃ j d : Nat, j ≤ n ∧ i = .int .i64 j ∧ s = .bool (allTo V k j) ∧ wr = W.drewN d) (fun _ i _ => n - (intOf i).toNat)
      case atStart => exact ⟨0, _, Nat.zero_le _, rfl, rfl, rfl⟩
      case round =>
        obtain ⟨j, d2, hj, rfl, rfl, rfl⟩ := hrel
        by_cases hjn : j < n
        · obtain ⟨by_, oy, cy, hy1, hy3⟩ := HROW.out j hjn
          have q3 := HX3.out j hjn
          have q4 := hy3 k hkn
          have HS : Hid (allTo V k (j + 1) = (allTo V k j && (decide (k = j) || decide (cnt V j k < cnt V k j)))) := rfl
          clear hy3
          cases hal : allTo V k j with
          | true =>
            rw [hal] at HS
            by_cases hkj : k = j
            · have hr : allTo V k (j + 1) = true := by rw [HS.out]; simp [hkj]
              have hne : ((k : Int) == (j : Int)) = true := by simp; omega
              go_wp2_with fail
              go_quiet (fail)
              go_wp2
              go_roundw
              case rel => exact ⟨j + 1, _, by omega, by go_num, by rw [hr], rfl⟩
              case measure => simp [intOf]; omega
            · have hne : ((k : Int) == (j : Int)) = false := by simp; omega
              by_cases hlt : cnt V j k < cnt V k j
              · have hr : allTo V k (j + 1) = true := by rw [HS.out]; simp [hlt]
                have hlt' : (cnt V j k : Int) < (cnt V k j : Int) := by omega
                go_wp2_with fail
                go_quiet (fail)
                go_wp2
                go_roundw
                case rel => exact ⟨j + 1, _, by omega, by go_num, by rw [hr], rfl⟩
                case measure => simp [intOf]; omega
              · have hr : allTo V k (j + 1) = false := by rw [HS.out]; simp [hlt, hkj]
                have hlt' : decide ((cnt V j k : Int) < (cnt V k j : Int)) = false := by simp; omega
                go_wp2_with fail
                go_quiet (fail)
                go_wp2
                go_roundw
                case rel => exact ⟨j + 1, _, by omega, by go_num, by rw [hr], rfl⟩
                case measure => simp [intOf]; omega
          | false =>
            rw [hal] at HS
            have hr : allTo V k (j + 1) = false := by rw [HS.out]; rfl
            go_wp2_with fail
            go_quiet (fail)
            go_wp2
            go_roundw
            case rel => exact ⟨j + 1, _, by omega, by go_num, by rw [hr], rfl⟩
            case measure => simp [intOf]; omega
        · obtain rfl : j = n := by omega
          rcases HBT.out with ⟨x, hx, rfl, rfl⟩ | ⟨hno, rfl, rfl⟩
          · by_cases hxk : x = k
            · have hal : allTo V k j = true := (allTo_beats hkn).2 (hxk ▸ hx)
              have hxe : ((x : Int) == (k : Int)) = true := by simp; omega
              rw [hal]
              clear hx HBT
              go_wp2
              go_roundw
              case rel => exact ⟨k + 1, _, by omega, by go_num, rfl⟩
              case measure => simp [intOf]; omega
            · have hal : allTo V k j = false := by
                cases h : allTo V k j with
                | false => rfl
                | true => exact absurd (beats_one hx ((allTo_beats hkn).1 h)) hxk
              have hxe : ((x : Int) == (k : Int)) = false := by simp; omega
              rw [hal]
              clear hx HBT
              go_wp2
              go_roundw
              case rel => exact ⟨k + 1, _, by omega, by go_num, rfl⟩
              case measure => simp [intOf]; omega
          · have hal : allTo V k j = false := by
              cases h : allTo V k j with
              | false => rfl
              | true => exact absurd ((allTo_beats hkn).1 h) (hno k)
            rw [hal]
            clear hno HBT
            go_wp2
            go_roundw
            case rel => exact ⟨k + 1, _, by omega, by go_num, rfl⟩
            case measure => simp [intOf]; omega
    · obtain rfl : k = n := by omega
      rcases HBT.out with ⟨x, hx, rfl, rfl⟩ | ⟨hno, rfl, rfl⟩
      · clear HBT hx
        go_wp2
        go_ret
        exact ⟨rfl, below_drewN hbW _⟩
      · clear HBT hno
        go_wp2
        go_ret
        exact ⟨rfl, below_drewN hbW _⟩
end Go.Proofs.Ytammnnhdhdeogaa

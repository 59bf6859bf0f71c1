/-
  plumeref.MiddleOf at a line and orders: the one in the middle; nothing is written.
-/
import Derived.Test.YtcjhgkmodfkmoaaOuts
import Derived.Test.YtcjhgkmodfkmoaaPeakMath
import Derived.WalkKit
namespace Go.Proofs.Ytcjhgkmodfkmoaa
open Go.RowKit Fm
set_option linter.unusedVariables false

set_option maxHeartbeats 1000000 in
set_option maxRecDepth 100000 in
theorem middleOf_any {n : Nat} {line : List Int} {V : List (List Int)} (hl : line.Perm (sides n)) (h1 : 1 ≤ n) (h6 : n ≤ 6) (hV : ∀ p ∈ V, p.Perm (sides n)) (h30 : V.length ≤ 30) (al a : Option Addr) (cl c B : Nat) (w : World) (rl : Rd w B al n line) (rv : RdR w B a V.length V) :
    Calls Try.prog 13 #[.slice al n cl, .slice a V.length c] w fun e w' => e = .returned (.int .i64 (midL line V)) ∧ w = w' := by
  obtain ⟨b, o, rfl, hb, hcell⟩ := rl.2 (by omega)
  have HC := Lib.hid hcell
  have HR := Lib.hid rv
  have HL := Lib.hid hl
  have HP := Lib.hid hV
  have HLN := Lib.hid (perm_len hl)
  have HMID : Hid (∀ k, k < n → V.length ≤ 2 * upto line V (k + 1) → (∀ j, j < k → 2 * upto line V (j + 1) < V.length) → midL line V = line.getD k 0) := fun k hk h2 h3 => mid_at (by rw [HLN.out]; exact hk) h2 h3
  have HALL := Lib.hid (upto_all hl h1 hV)
  obtain ⟨res, hres⟩ : ∃ res, midL line V = res := ⟨_, rfl⟩
  rw [hres] at HMID ⊢
  clear hcell rl rv hl hV hres
  obtain ⟨N, hN⟩ : ∃ N, V.length = N := ⟨_, rfl⟩
  rw [hN] at HMID HALL HR h30 ⊢
  have HN := Lib.hid hN
  clear hN
  go_enter Try.func13, Try.ntmps13
  go_wp2_with fail
  go_loop [5, 12] (fun s i => ∃ k : Nat, k ≤ n ∧ i = .int .i64 k ∧ s = .int .i64 (upto line V k) ∧ upto line V k ≤ 30 * k ∧ ∀ j, j < k → 2 * upto line V (j + 1) < N) (fun _ i => n - (intOf i).toNat)
  case atStart => exact ⟨0, Nat.zero_le _, rfl, rfl, Nat.le_refl _, fun j hj => absurd hj (by omega)⟩
  case round =>
    obtain ⟨k, hk, rfl, rfl, hbd, hlow⟩ := hrel
    have HLOW := Lib.hid hlow
    clear hlow
    by_cases hkn : k < n
    · have ck := HC.out k hkn
      have HS := Lib.hid (upto_succ (line := line) (k := k) (by rw [HLN.out]; exact hkn) V)
      have HXM : Hid (line.getD k 0 ∈ sides n) := HL.out.mem_iff.1 (getD_mem line k (by rw [HLN.out]; exact hkn))
      have HM := Lib.hid (HMID.out k hkn)
      generalize line.getD k 0 = x at *
      generalize upto line V k = u at *
      go_wp2_with fail
      go_loop [5, 18] (fun s i => ∃ t : Nat, t ≤ N ∧ i = .int .i64 t ∧ s = .int .i64 ((u + fst1 (V.take t) x : Nat) : Int)) (fun _ i => N - (intOf i).toNat)
      case atStart => exact ⟨0, Nat.zero_le _, rfl, rfl⟩
      case round =>
        obtain ⟨t, ht, rfl, rfl⟩ := hrel
        by_cases htN : t < N
        · have htl : t < V.length := by rw [HN.out]; exact htN
          obtain ⟨b2, o2, a', c', rfl, hb2, hcell, _, _, _, hrd⟩ := HR.out.at_ htN
          have hmem : V.getD t [] ∈ V := by rw [List.getD_eq_getElem?_getD, List.getElem?_eq_getElem htl]; exact List.getElem_mem htl
          have hperm := HP.out _ hmem
          have hpl := perm_len hperm
          have hsn : V.take (t + 1) = V.take t ++ [V.getD t []] := by
            rw [List.take_succ_eq_append_getElem htl, List.getD_eq_getElem?_getD, List.getElem?_eq_getElem htl]; rfl
          rw [hpl] at hcell hrd
          obtain ⟨b3, o3, rfl, hb3, hcell3⟩ := hrd.at_ (k := 0) (by omega)
          obtain ⟨_, t2, t3⟩ := top_of hperm h1
          have HF : Hid (fst1 (V.take (t + 1)) x = fst1 (V.take t) x + if (V.getD t []).getD 0 0 = x then 1 else 0) := by
            show _ = _
            rw [hsn, fst1_snoc]
            by_cases e : (V.getD t []).getD 0 0 = x
            · rw [if_pos e, if_pos (by rw [← e]; exact t2)]
            · rw [if_neg e, if_neg (fun h => e (t3 x HXM.out h).symm)]
          have hfl := fst1_le (V.take t) x
          rw [List.length_take] at hfl
          rw [Nat.add_zero] at hcell3
          clear hsn hmem hperm hpl hrd t2 t3
          generalize (V.getD t []).getD 0 0 = y at *
          generalize fst1 (V.take t) x = ft at *
          by_cases e : y = x
          · rw [if_pos e] at HF
            have he : (y == x) = true := by simpa using e
            clear e
            go_wp2
            go_round
            case rel => exact ⟨t + 1, by omega, by go_num, by rw [HF.out]; go_num⟩
            case measure => simp [intOf]; omega
          · rw [if_neg e] at HF
            have he : (y == x) = false := by simpa using e
            clear e
            go_wp2
            go_round
            case rel => exact ⟨t + 1, by omega, by go_num, by rw [HF.out]; rfl⟩
            case measure => simp [intOf]; omega
        · obtain rfl : t = N := by omega
          rw [List.take_of_length_le (by rw [HN.out]; exact Nat.le_refl _)]
          have hfl := fst1_le V x
          rw [HN.out] at hfl
          rw [← HS.out]
          have hu2 : upto line V (k + 1) ≤ 30 * (k + 1) := by rw [HS.out]; omega
          by_cases hge : t ≤ 2 * upto line V (k + 1)
          · have HX := Lib.hid (HM.out hge HLOW.out)
            generalize upto line V (k + 1) = u2 at *
            have hge' : ((t : Nat) : Int) ≤ 2 * ((u2 : Nat) : Int) := by omega
            go_wp2
            go_ret
            exact ⟨by rw [HX.out]; rfl, rfl⟩
          · have HX : Hid (∀ j, j < k + 1 → 2 * upto line V (j + 1) < t) := fun j hj => by
              by_cases e : j = k
              · subst e; omega
              · exact HLOW.out j (by omega)
            have HU : Hid (upto line V (k + 1) ≤ 30 * (k + 1)) := hu2
            obtain ⟨u2, hue⟩ : ∃ u2, upto line V (k + 1) = u2 := ⟨_, rfl⟩
            have HUE := Lib.hid hue
            rw [hue] at hge hu2 ⊢
            clear hue
            have hlt' : ¬ ((t : Nat) : Int) ≤ 2 * ((u2 : Nat) : Int) := by omega
            go_wp2
            go_round
            case rel => exact ⟨k + 1, by omega, by go_num, by rw [HUE.out], HU.out, HX.out⟩
            case measure => simp [intOf]; omega
    · exfalso
      have hkn' : k = n := by omega
      subst hkn'
      have h2 := HLOW.out (k - 1) (by omega)
      rw [show k - 1 + 1 = k by omega, HALL.out] at h2
      omega
end Go.Proofs.Ytcjhgkmodfkmoaa

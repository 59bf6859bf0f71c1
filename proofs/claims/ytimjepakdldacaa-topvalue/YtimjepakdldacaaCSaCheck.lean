/-
  saddle.Check answers pchk, for every slice of slices of ints that a machine can hold; nothing is written.
-/
import Derived.Test.YtimjepakdldacaaPayP
namespace Go.Proofs.Ytimjepakdldacaa
open Go.RowKit Fm
set_option linter.unusedVariables false

theorem payErr_len {k : Nat} {r : List Int} (h : r.length ≠ k) : payErr k r = 3 := by unfold payErr; rw [if_pos h]
theorem payErr_big {k : Nat} {r : List Int} (h : r.length = k) (h2 : k = 0 ∨ 6 < k) : payErr k r = 2 := by unfold payErr; rw [if_neg (by simpa using h), if_pos (by omega)]
theorem payErr_bad {k : Nat} {r : List Int} (h : r.length = k) (h2 : ¬ (k = 0 ∨ 6 < k)) {j : Nat} (hj : j < r.length) (hb : r.getD j 0 < -1000 ∨ 1000 < r.getD j 0) : payErr k r = 1 := by
  unfold payErr
  rw [if_neg (by simpa using h), if_neg (by omega), if_neg (fun hh => by have := hh _ (getD_mem r j hj); omega)]
theorem payErr_good {k : Nat} {r : List Int} (h : r.length = k) (h2 : ¬ (k = 0 ∨ 6 < k)) (hb : ∀ j, j < r.length → -1000 ≤ r.getD j 0 ∧ r.getD j 0 ≤ 1000) : payErr k r = 0 := by
  refine payErr_zero.2 ⟨h, by omega, fun x hx => ?_⟩
  obtain ⟨j, hj, rfl⟩ := List.getElem_of_mem hx
  have := hb j hj
  rwa [getD_get hj] at this

set_option maxHeartbeats 1000000 in
set_option maxRecDepth 100000 in
theorem saRow_any (n : Nat) (hn : n ≤ 17592186044416) (a : Option Addr) (m c : Nat) (r : List Int) (w : World) (B : Nat) (hr : Rd w B a m r) (hm : m ≤ 17592186044416) :
    Calls Try.prog 56 #[.int .i64 n, .slice a m c] w fun e w' => e = .returned (.int .i64 (payErr n r)) ∧ w = w' := by
  obtain rfl := hr.1
  obtain ⟨res, hres⟩ : ∃ res, payErr n r = res := ⟨_, rfl⟩
  have HRES := Lib.hid hres
  rw [hres]
  clear hres
  have HR := Lib.hid hr
  clear hr
  by_cases hl : r.length = n
  · have hpb : (((r.length : Nat) : Int) != (n : Int)) = false := by simp [hl]
    have HL := Lib.hid hl
    clear hl
    by_cases h2 : n = 0 ∨ 6 < n
    · have HX : Hid (res = 2) := by show _ = _; rw [← HRES.out]; exact payErr_big HL.out h2
      rcases h2 with h2 | h2
      · have h3 : (n : Int) < 1 := by omega
        clear h2
        go_enter Try.func56, Try.ntmps56
        go_wp2
        go_ret
        exact ⟨by rw [HX.out]; rfl, rfl⟩
      · have h3 : ¬ (n : Int) < 1 := by omega
        have h4 : (6 : Int) < (n : Int) := by omega
        go_enter Try.func56, Try.ntmps56
        go_wp2
        go_ret
        exact ⟨by rw [HX.out]; rfl, rfl⟩
    · have H2 := Lib.hid h2
      have h3 : ¬ (n : Int) < 1 := by omega
      have h4 : ¬ (6 : Int) < (n : Int) := by omega
      clear h2
      go_enter Try.func56, Try.ntmps56
      go_wp2_with fail
      go_loop [19] (fun i => ∃ k : Nat, k ≤ r.length ∧ i = .int .i64 k ∧ ∀ j, j < k → -1000 ≤ r.getD j 0 ∧ r.getD j 0 ≤ 1000) (fun i => r.length - (intOf i).toNat)
      case atStart => exact ⟨0, Nat.zero_le _, rfl, fun j hj => by omega⟩
      case round =>
        obtain ⟨k, hk, rfl, hall⟩ := hrel
        have HA := Lib.hid hall
        clear hall
        by_cases hkr : k < r.length
        · obtain ⟨b, o, rfl, hb, hcell⟩ := HR.out.at_ hkr
          have HBAD : Hid (r.getD k 0 < -1000 ∨ 1000 < r.getD k 0 → res = 1) := fun h => by rw [← HRES.out]; exact payErr_bad HL.out H2.out hkr h
          have HN : Hid (-1000 ≤ r.getD k 0 ∧ r.getD k 0 ≤ 1000 → ∀ j, j < k + 1 → -1000 ≤ r.getD j 0 ∧ r.getD j 0 ≤ 1000) := fun h j hj => by
            by_cases hjk : j = k
            · subst hjk; exact h
            · exact HA.out j (by omega)
          generalize r.getD k 0 = x at *
          by_cases hx : x < -1000
          · have HX := Lib.hid (HBAD.out (.inl hx))
            go_wp2
            go_ret
            exact ⟨by rw [HX.out]; rfl, rfl⟩
          · by_cases hx2 : 1000 < x
            · have HX := Lib.hid (HBAD.out (.inr hx2))
              go_wp2
              go_ret
              exact ⟨by rw [HX.out]; rfl, rfl⟩
            · have HX := Lib.hid (HN.out (by omega))
              go_wp2
              go_round
              case rel => exact ⟨k + 1, by omega, by go_num, HX.out⟩
              case measure => simp [intOf]; omega
        · obtain rfl : k = r.length := by omega
          have HX : Hid (res = 0) := by
            show _ = _
            rw [← HRES.out]; exact payErr_good HL.out H2.out HA.out
          go_wp2
          go_ret
          exact ⟨by rw [HX.out]; rfl, rfl⟩
  · have hpb : (((r.length : Nat) : Int) != (n : Int)) = true := by simp; omega
    have HX : Hid (res = 3) := by show _ = _; rw [← HRES.out]; exact payErr_len hl
    clear hl
    go_enter Try.func56, Try.ntmps56
    go_wp2
    go_ret
    exact ⟨by rw [HX.out]; rfl, rfl⟩

set_option maxHeartbeats 1000000 in
set_option maxRecDepth 100000 in
theorem saCheck_any (a : Option Addr) (m c : Nat) (M : List (List Int)) (w : World) (ti : TabIn w a m M) :
    Calls Try.prog 33 #[.slice a m c] w fun e w' => e = .returned (.int .i64 (pchk M)) ∧ w = w' := by
  obtain ⟨B, hB, hr, hm, h8⟩ := ti
  obtain rfl := hr.1
  have HR := Lib.hid hr
  have H8 := Lib.hid h8
  clear hr h8
  obtain ⟨r, hres⟩ : ∃ res, pchk M = res := ⟨_, rfl⟩
  rw [hres]
  by_cases h0 : M.length = 0
  · have HT : Hid (r = 2) := by show _ = _; rw [← hres]; unfold pchk; rw [if_pos (.inl h0)]
    have h1 : (M.length : Int) < 1 := by omega
    clear hres
    generalize M.length = n at *
    go_enter Try.func33, Try.ntmps33
    go_wp2
    go_ret
    exact ⟨by rw [HT.out]; rfl, rfl⟩
  · have h1 : ¬ (M.length : Int) < 1 := by omega
    by_cases h6 : 6 < M.length
    · have HT : Hid (r = 2) := by show _ = _; rw [← hres]; unfold pchk; rw [if_pos (.inr h6)]
      clear hres
      generalize M.length = n at *
      go_enter Try.func33, Try.ntmps33
      go_wp2
      go_ret
      exact ⟨by rw [HT.out]; rfl, rfl⟩
    · have h6' : ¬ (6 : Int) < (M.length : Int) := by omega
      obtain ⟨b, o, a0', c0', ha0, hb0', hcell0, _, _, _, _⟩ := HR.out.at_ (show 0 < M.length by omega)
      subst ha0
      obtain ⟨k0, hk0⟩ : ∃ k0, (M.getD 0 []).length = k0 := ⟨_, rfl⟩
      rw [hk0, Nat.add_zero] at hcell0
      have HT : Hid (r = firstPay k0 M) := by show _ = _; rw [← hres]; unfold pchk; rw [if_neg (by omega), hk0]
      have hk08 : k0 ≤ 17592186044416 := by rw [← hk0]; exact H8.out _ (memR (by omega))
      obtain ⟨n, hn⟩ : ∃ n, M.length = n := ⟨_, rfl⟩
      have HN := Lib.hid hn
      have hn0 : (0 : Int) < (n : Int) := by omega
      rw [hn] at hm h0 h1 h6 h6' HR ⊢
      clear hn hres hk0
      go_enter Try.func33, Try.ntmps33
      go_wp2_with fail
      go_loop [16] (fun i => ∃ k : Nat, k ≤ n ∧ i = .int .i64 k ∧ (∀ q ∈ M.take k, payErr k0 q = 0)) (fun i => n - (intOf i).toNat)
      case atStart => exact ⟨0, Nat.zero_le _, rfl, fun q hq => by simp at hq⟩
      case round =>
        obtain ⟨k, hk, rfl, hall⟩ := hrel
        have HA := Lib.hid hall
        clear hall
        by_cases hkn : k < n
        · obtain ⟨b', o', a', c', hba, hb, hcell, _, _, _, hrd⟩ := HR.out.at_ hkn
          injection hba with hba
          injection hba with e1 e2
          subst e1; subst e2
          have hkM : k < M.length := by rw [HN.out]; exact hkn
          have hl8 := H8.out _ (memR hkM)
          have HFE : Hid (payErr k0 (M.getD k []) ≠ 0 → r = payErr k0 (M.getD k [])) := fun h => by
            rw [HT.out]
            exact firstPay_at hkM HA.out h
          have HNX : Hid (payErr k0 (M.getD k []) = 0 → ∀ q ∈ M.take (k + 1), payErr k0 q = 0) := fun h q hq => by
            have hsn : M.take (k + 1) = M.take k ++ [M.getD k []] := by
              rw [List.take_succ_eq_append_getElem hkM, List.getD_eq_getElem?_getD, List.getElem?_eq_getElem hkM]; rfl
            rw [hsn, List.mem_append] at hq
            rcases hq with hq | hq
            · exact HA.out q hq
            · rw [List.mem_singleton] at hq; subst hq; exact h
          clear HA
          have HCR := Lib.hid (saRow_any k0 hk08 a' _ c' _ w B hrd hl8)
          clear hrd
          generalize M.getD k [] = p at *
          go_wp2_with fail
          refine HCR.out.mono ?_
          rintro e w6 ⟨rfl, rfl⟩
          clear HCR
          by_cases hp : payErr k0 p = 0
          · have HX := Lib.hid (HNX.out hp)
            generalize payErr k0 p = cc at *
            have hcb : (cc != 0) = false := by simpa using hp
            clear hp HFE HNX hcell
            go_wp2
            go_round
            case rel => exact ⟨k + 1, by omega, by go_num, HX.out⟩
            case measure => simp [intOf]; omega
          · have HX := Lib.hid (HFE.out hp)
            generalize payErr k0 p = cc at *
            have hcb : (cc != 0) = true := by simpa using hp
            clear hp HFE HNX hcell
            go_wp2
            go_ret
            exact ⟨by rw [HX.out]; rfl, rfl⟩
        · obtain rfl : k = n := by omega
          have HX : Hid (r = 0) := by
            show _ = _
            rw [HT.out]
            refine firstPay_zero.2 (fun q hq => HA.out q ?_)
            rw [List.take_of_length_le (by rw [HN.out]; exact Nat.le_refl _)]
            exact hq
          go_wp2
          go_ret
          exact ⟨by rw [HX.out]; rfl, rfl⟩

theorem sCheck : SCheck := fun a m c M w ti => (saCheck_any a m c M w ti).mono fun e w' ⟨h1, h2⟩ => ⟨h1, h2 ▸ Below.refl _ _⟩
end Go.Proofs.Ytimjepakdldacaa

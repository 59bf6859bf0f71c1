/-
  duel.Check answers tchk, for every slice of slices of ints that a machine can hold; nothing that was there is written.
-/
import Derived.Test.YthcaipnlgbnfkaaM3
namespace Go.Proofs.Ythcaipnlgbnfkaa
open Go.RowKit Fm
set_option linter.unusedVariables false

theorem rowErr_len {n : Nat} {r : List Int} (h : r.length ≠ n) : rowErr n r = 3 := by unfold rowErr; rw [if_pos h]
theorem rowErr_bad {n : Nat} {r : List Int} (h : r.length = n) {j : Nat} (hj : j < r.length) (hb : r.getD j 0 < 0 ∨ 30 < r.getD j 0) : rowErr n r = 1 := by
  unfold rowErr
  rw [if_neg (by simpa using h), if_neg (fun hh => by have := hh _ (getD_mem r j hj); omega)]
theorem rowErr_good {n : Nat} {r : List Int} (h : r.length = n) (hb : ∀ j, j < r.length → 0 ≤ r.getD j 0 ∧ r.getD j 0 ≤ 30) : rowErr n r = 0 := by
  refine rowErr_zero.2 ⟨h, fun x hx => ?_⟩
  obtain ⟨j, hj, rfl⟩ := List.getElem_of_mem hx
  have := hb j hj
  rwa [getD_get hj] at this

set_option maxHeartbeats 1000000 in
set_option maxRecDepth 100000 in
theorem checkRow_any (n : Nat) (hn : n ≤ 6) (a : Option Addr) (m c : Nat) (r : List Int) (w : World) (B : Nat) (hr : Rd w B a m r) (hm : m ≤ 17592186044416) :
    Calls Try.prog 121 #[.int .i64 n, .slice a m c] w fun e w' => e = .returned (.int .i64 (rowErr n r)) ∧ w = w' := by
  obtain rfl := hr.1
  obtain ⟨res, hres⟩ : ∃ res, rowErr n r = res := ⟨_, rfl⟩
  have HRES := Lib.hid hres
  rw [hres]
  clear hres
  have HR := Lib.hid hr
  clear hr
  by_cases hl : r.length = n
  · have hpb : (((r.length : Nat) : Int) != (n : Int)) = false := by simp [hl]
    have HL := Lib.hid hl
    clear hl
    go_enter Try.func121, Try.ntmps121
    go_wp2_with fail
    go_loop [13] (fun i => ∃ k : Nat, k ≤ r.length ∧ i = .int .i64 k ∧ ∀ j, j < k → 0 ≤ r.getD j 0 ∧ r.getD j 0 ≤ 30) (fun i => r.length - (intOf i).toNat)
    case atStart => exact ⟨0, Nat.zero_le _, rfl, fun j hj => by omega⟩
    case round =>
      obtain ⟨k, hk, rfl, hall⟩ := hrel
      have HA := Lib.hid hall
      clear hall
      by_cases hkr : k < r.length
      · obtain ⟨b, o, rfl, hb, hcell⟩ := HR.out.at_ hkr
        have HBAD : Hid (r.getD k 0 < 0 ∨ 30 < r.getD k 0 → res = 1) := fun h => by rw [← HRES.out]; exact rowErr_bad HL.out hkr h
        have HN : Hid (0 ≤ r.getD k 0 ∧ r.getD k 0 ≤ 30 → ∀ j, j < k + 1 → 0 ≤ r.getD j 0 ∧ r.getD j 0 ≤ 30) := fun h j hj => by
          by_cases hjk : j = k
          · subst hjk; exact h
          · exact HA.out j (by omega)
        generalize r.getD k 0 = x at *
        by_cases hx : x < 0
        · have HX := Lib.hid (HBAD.out (.inl hx))
          go_wp2
          go_ret
          exact ⟨by rw [HX.out]; rfl, rfl⟩
        · by_cases hx2 : 30 < x
          · have HX := Lib.hid (HBAD.out (.inr hx2))
            go_wp2
            go_ret
            exact ⟨by rw [HX.out]; rfl, rfl⟩
          · have HX := Lib.hid (HN.out (by omega))
            go_wp2
            go_round
            case rel => exact ⟨k + 1, by omega, by go_num, HX.out⟩
            case measure => simp [intOf]; omega
      · obtain rfl : k = r.length := by omega
        have HX : Hid (res = 0) := by
          show _ = _
          rw [← HRES.out]; exact rowErr_good HL.out HA.out
        go_wp2
        go_ret
        exact ⟨by rw [HX.out]; rfl, rfl⟩
  · have hpb : (((r.length : Nat) : Int) != (n : Int)) = true := by simp; omega
    have HX : Hid (res = 3) := by show _ = _; rw [← HRES.out]; exact rowErr_len hl
    clear hl
    go_enter Try.func121, Try.ntmps121
    go_wp2
    go_ret
    exact ⟨by rw [HX.out]; rfl, rfl⟩

set_option maxHeartbeats 1000000 in
set_option maxRecDepth 100000 in
theorem dcheck_any (a : Option Addr) (m c : Nat) (M : List (List Int)) (w : World) (B : Nat) (hB : B ≤ w.heap.size) (hr : RdR w B a m M) (hm : m ≤ 17592186044416) (h8 : ∀ l ∈ M, l.length ≤ 17592186044416) :
    Calls Try.prog 98 #[.slice a m c] w fun e w' => e = .returned (.int .i64 (tchk M)) ∧ w = w' := by
  obtain rfl := hr.1
  have HR := Lib.hid hr
  have H8 := Lib.hid h8
  clear hr h8
  obtain ⟨r, hres⟩ : ∃ res, tchk M = res := ⟨_, rfl⟩
  rw [hres]
  by_cases h0 : M.length = 0
  · have HT : Hid (r = 2) := by show _ = _; rw [← hres]; unfold tchk; rw [if_pos (.inl h0)]
    have h1 : (M.length : Int) < 1 := by omega
    clear hres
    generalize M.length = n at *
    go_enter Try.func98, Try.ntmps98
    go_wp2
    go_ret
    exact ⟨by rw [HT.out]; rfl, rfl⟩
  · have h1 : ¬ (M.length : Int) < 1 := by omega
    by_cases h6 : 6 < M.length
    · have HT : Hid (r = 2) := by show _ = _; rw [← hres]; unfold tchk; rw [if_pos (.inr h6)]
      clear hres
      generalize M.length = n at *
      go_enter Try.func98, Try.ntmps98
      go_wp2
      go_ret
      exact ⟨by rw [HT.out]; rfl, rfl⟩
    · have h6' : ¬ (6 : Int) < (M.length : Int) := by omega
      have HT1 : Hid (firstErr M.length M ≠ 0 → r = firstErr M.length M) := fun h => by rw [← hres]; unfold tchk; rw [if_neg (by omega), if_pos h]
      have HT2 : Hid (firstErr M.length M = 0 → diagOk M → r = 0) := fun h hd => by rw [← hres]; unfold tchk; rw [if_neg (by omega), if_neg (by simpa using h), if_pos hd]
      have HT3 : Hid (firstErr M.length M = 0 → ¬ diagOk M → r = 3) := fun h hd => by rw [← hres]; unfold tchk; rw [if_neg (by omega), if_neg (by simpa using h), if_neg hd]
      obtain ⟨n, hn⟩ : ∃ n, M.length = n := ⟨_, rfl⟩
      have HN := Lib.hid hn
      rw [hn] at hm h0 h1 h6 h6' HT1 HT2 HT3 HR ⊢
      clear hn hres
      go_enter Try.func98, Try.ntmps98
      go_wp2_with fail
      go_loop [17] (fun i => ∃ k : Nat, k ≤ n ∧ i = .int .i64 k ∧ (∀ q ∈ M.take k, rowErr n q = 0)) (fun i => n - (intOf i).toNat)
      case atStart => exact ⟨0, Nat.zero_le _, rfl, fun q hq => by simp at hq⟩
      case round =>
        obtain ⟨k, hk, rfl, hall⟩ := hrel
        have HA := Lib.hid hall
        clear hall
        by_cases hkn : k < n
        · obtain ⟨b, o, a', c', rfl, hb, hcell, _, _, _, hrd⟩ := HR.out.at_ hkn
          have hkM : k < M.length := by rw [HN.out]; exact hkn
          have hl8 := H8.out _ (memR hkM)
          have HFE : Hid (rowErr n (M.getD k []) ≠ 0 → r = rowErr n (M.getD k [])) := fun h => by
            have e := firstErr_at (n := n) hkM HA.out h
            rw [← e]
            exact HT1.out (by rw [e]; exact h)
          have HNX : Hid (rowErr n (M.getD k []) = 0 → ∀ q ∈ M.take (k + 1), rowErr n q = 0) := fun h q hq => by
            have hsn : M.take (k + 1) = M.take k ++ [M.getD k []] := by
              rw [List.take_succ_eq_append_getElem hkM, List.getD_eq_getElem?_getD, List.getElem?_eq_getElem hkM]; rfl
            rw [hsn, List.mem_append] at hq
            rcases hq with hq | hq
            · exact HA.out q hq
            · rw [List.mem_singleton] at hq; subst hq; exact h
          clear HA
          have HCR := Lib.hid (checkRow_any n (by omega) a' _ c' _ w B hrd hl8)
          clear hrd
          generalize M.getD k [] = p at *
          go_wp2_with fail
          refine HCR.out.mono ?_
          rintro e w6 ⟨rfl, rfl⟩
          clear HCR hcell
          by_cases hp : rowErr n p = 0
          · have HX := Lib.hid (HNX.out hp)
            generalize rowErr n p = cc at *
            have hcb : (cc != 0) = false := by simpa using hp
            clear hp HFE HNX
            go_wp2
            go_round
            case rel => exact ⟨k + 1, by omega, by go_num, HX.out⟩
            case measure => simp [intOf]; omega
          · have HX := Lib.hid (HFE.out hp)
            generalize rowErr n p = cc at *
            have hcb : (cc != 0) = true := by simpa using hp
            clear hp HFE HNX
            go_wp2
            go_ret
            exact ⟨by rw [HX.out]; rfl, rfl⟩
        · obtain rfl : k = n := by omega
          have HZ : Hid (∀ q ∈ M, rowErr k q = 0) := fun q hq => HA.out q (by rw [List.take_of_length_le (by rw [HN.out]; exact Nat.le_refl _)]; exact hq)
          have HFZ := Lib.hid (firstErr_zero.2 HZ.out)
          clear HA
          go_wp2_with fail
          go_loop [31] (fun i => ∃ j : Nat, j ≤ k ∧ i = .int .i64 j ∧ (∀ t, t < j → ent M t t = 0)) (fun i => k - (intOf i).toNat)
          case atStart => exact ⟨0, Nat.zero_le _, rfl, fun t ht => by omega⟩
          case round =>
            obtain ⟨j, hj, rfl, hall⟩ := hrel
            have HA := Lib.hid hall
            clear hall
            by_cases hjk : j < k
            · obtain ⟨b, o, a', c', rfl, hb, hcell, _, _, _, hrd⟩ := HR.out.at_ hjk
              have hjM : j < M.length := by rw [HN.out]; exact hjk
              have hlen := (rowErr_zero.1 (HZ.out _ (memR hjM))).1
              have hct : w.cell? ⟨b, o + j, none⟩ = some (.slice a' k c') := by rw [hcell, hlen]
              rw [hlen] at hrd
              obtain ⟨b2, o2, rfl, hb2, hcell2⟩ := hrd.at_ hjk
              have hc2 : w.cell? ⟨b2, o2 + j, none⟩ = some (.int .i64 (ent M j j)) := hcell2
              clear hcell hrd hcell2 hlen
              by_cases he : ent M j j = 0
              · have HX : Hid (∀ t, t < j + 1 → ent M t t = 0) := fun t ht => by
                  by_cases htj : t = j
                  · subst htj; exact he
                  · exact HA.out t (by omega)
                generalize ent M j j = ee at *
                have heb : (ee != 0) = false := by simpa using he
                clear he
                go_wp2
                go_round
                case rel => exact ⟨j + 1, by omega, by go_num, HX.out⟩
                case measure => simp [intOf]; omega
              · have HX : Hid (r = 3) := HT3.out HFZ.out (fun hd => he (hd j hjM))
                generalize ent M j j = ee at *
                have heb : (ee != 0) = true := by simpa using he
                clear he
                go_wp2
                go_ret
                exact ⟨by rw [HX.out]; rfl, rfl⟩
            · obtain rfl : j = k := by omega
              have HX : Hid (r = 0) := HT2.out HFZ.out (fun i hi => HA.out i (by rw [← HN.out]; exact hi))
              go_wp2
              go_ret
              exact ⟨by rw [HX.out]; rfl, rfl⟩

theorem dCheck : DCheck := fun a m c M w ⟨B, hB, hr, hm, h8⟩ => (dcheck_any a m c M w B hB hr hm h8).mono fun e w' ⟨h1, h2⟩ => ⟨h1, h2 ▸ Below.refl _ _⟩
end Go.Proofs.Ythcaipnlgbnfkaa

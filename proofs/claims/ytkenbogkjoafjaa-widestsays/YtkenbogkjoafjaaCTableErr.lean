/-
  plumeref.TableErr answers tchk, for every slice of slices of ints that a machine can hold; nothing that was there is written.
-/
import Derived.Test.YtkenbogkjoafjaaCFuncI
import Derived.Test.YtkenbogkjoafjaaPureA
namespace Go.Proofs.Ytkenbogkjoafjaa
open Go.RowKit Fm
set_option linter.unusedVariables false

def offB (x : Int) : Bool := decide (x < 0) || decide (30 < x)
theorem tableErr1_any (x : Int) (w : World) : Calls Try.prog 22 #[.int .i64 x] w fun e w' => e = .returned (.bool (offB x)) ∧ Below w.heap.size w w' := by
  by_cases h : x < 0
  · have hb : offB x = true := by simp [offB, h]
    have HB := Lib.hid hb
    clear hb
    go_enter Try.func22, Try.ntmps22
    go_wp2
    go_ret
    exact ⟨by rw [HB.out]; rfl, Below.refl _ w⟩
  · by_cases h3 : 30 < x
    · have hb : offB x = true := by simp [offB, h3]
      have HB := Lib.hid hb
      clear hb
      go_enter Try.func22, Try.ntmps22
      go_wp2
      go_ret
      exact ⟨by rw [HB.out]; rfl, Below.refl _ w⟩
    · have hb : offB x = false := by simp [offB, h, h3]
      have HB := Lib.hid hb
      clear hb
      go_enter Try.func22, Try.ntmps22
      go_wp2
      go_ret
      exact ⟨by rw [HB.out]; rfl, Below.refl _ w⟩
theorem any_off {l : List Int} : l.any offB = false ↔ ∀ x ∈ l, 0 ≤ x ∧ x ≤ 30 := by
  rw [List.any_eq_false]
  constructor
  · intro h x hx
    have := h x hx
    simp [offB] at this
    omega
  · intro h x hx
    have := h x hx
    simp [offB]
    omega

set_option maxHeartbeats 1000000 in
set_option maxRecDepth 100000 in
theorem tableErr_any (a : Option Addr) (m c : Nat) (M : List (List Int)) (w : World) (B : Nat) (hB : B ≤ w.heap.size) (hr : RdR w B a m M) (hm : m ≤ 17592186044416) (h8 : ∀ l ∈ M, l.length ≤ 17592186044416) :
    Calls Try.prog 9 #[.slice a m c] w fun e w' => e = .returned (.int .i64 (tchk M)) ∧ Below w.heap.size w w' := by
  obtain rfl := hr.1
  have HR := Lib.hid hr
  have H8 := Lib.hid h8
  clear hr h8
  by_cases h0 : M.length = 0
  · have HT : Hid (tchk M = 2) := by show _ = _; unfold tchk; rw [if_pos (.inl h0)]
    generalize tchk M = r at *
    go_enter Try.func9, Try.ntmps9
    go_wp2
    go_ret
    exact ⟨by rw [HT.out]; rfl, Below.refl _ w⟩
  · have hb0 : (((M.length : Nat) : Int) == 0) = false := by simp; intro h; simp [h] at h0
    by_cases h6 : 6 < M.length
    · have HT : Hid (tchk M = 2) := by show _ = _; unfold tchk; rw [if_pos (.inr h6)]
      generalize tchk M = r at *
      go_enter Try.func9, Try.ntmps9
      go_wp2
      go_ret
      exact ⟨by rw [HT.out]; rfl, Below.refl _ w⟩
    · have h6' : ¬ (6 : Int) < (M.length : Int) := by omega
      have HT1 : Hid (firstErr M.length M ≠ 0 → tchk M = firstErr M.length M) := fun h => by unfold tchk; rw [if_neg (by omega), if_pos h]
      have HT2 : Hid (firstErr M.length M = 0 → diagOk M → tchk M = 0) := fun h hd => by unfold tchk; rw [if_neg (by omega), if_neg (by simpa using h), if_pos hd]
      have HT3 : Hid (firstErr M.length M = 0 → ¬ diagOk M → tchk M = 3) := fun h hd => by unfold tchk; rw [if_neg (by omega), if_neg (by simpa using h), if_neg hd]
      obtain ⟨n, hn⟩ : ∃ n, M.length = n := ⟨_, rfl⟩
      have HN := Lib.hid hn
      rw [hn] at hm h0 hb0 h6 h6' HT1 HT2 HT3 HR ⊢
      clear hn
      generalize tchk M = r at *
      go_enter Try.func9, Try.ntmps9
      go_wp2_with fail
      go_loopw [17] (fun i wr => ∃ k : Nat, k ≤ n ∧ i = .int .i64 k ∧ (∀ q ∈ M.take k, rowErr n q = 0) ∧ Below w.heap.size w wr) (fun i _ => n - (intOf i).toNat)
      case atStart => exact ⟨0, Nat.zero_le _, rfl, fun q hq => by simp at hq, Below.refl _ w⟩
      case round =>
        obtain ⟨k, hk, rfl, hall, hbel⟩ := hrel
        have HA := Lib.hid hall
        clear hall
        have hz := hbel.size
        by_cases hkn : k < n
        · obtain ⟨b, o, a', c', rfl, hb, hcell, _, _, _, hrd⟩ := HR.out.at_ hkn
          have hkM : k < M.length := by rw [HN.out]; exact hkn
          have hct : wr.cell? ⟨b, o + k, none⟩ = some (.slice a' (M.getD k []).length c') := by
            rw [(hbel.cell (by show b < _; omega)), hcell]
          have RD := Lib.hid (hrd.below hbel hB)
          have hl8 := H8.out _ (memR hkM)
          have HFE : Hid (rowErr n (M.getD k []) ≠ 0 → r = rowErr n (M.getD k [])) := fun h => by
            have e := firstErr_at (n := n) hkM HA.out h
            rw [← e]
            exact HT1.out (by rw [e]; exact h)
          have HNX : Hid (rowErr n (M.getD k []) = 0 → ∀ q ∈ M.take (k + 1), rowErr n q = 0) := fun h q hq => by
            have hsn : M.take (k + 1) = M.take k ++ [M.getD k []] := by
              rw [List.take_succ_eq_append_getElem hkM, List.getD_eq_getElem?_getD, List.getElem?_eq_getElem hkM]; rfl
            rw [hsn, List.mem_append] at hq
            rcases hq with hq | hq
            · exact HA.out q hq
            · rw [List.mem_singleton] at hq; subst hq; exact h
          clear hcell hrd HA
          generalize M.getD k [] = p at *
          by_cases hpl : p.length = n
          · have hpb : (((p.length : Nat) : Int) != (n : Int)) = false := by simp [hpl]
            have HPL := Lib.hid hpl
            clear hpl
            have HCF := Lib.hid (containsFuncI_any 22 (fun _ _ => rfl) #[] offB a' p.length c' p wr B (by omega) RD.out hl8 (fun x hx w1 hb1 => by simpa using tableErr1_any x w1))
            have HE1 : Hid (p.any offB = true → r = 1) := fun h => by
              have e : rowErr n p = 1 := by
                unfold rowErr
                rw [if_neg (by simpa using HPL.out), if_neg (fun hh => by rw [any_off.2 hh] at h; cases h)]
              rw [← e]
              exact HFE.out (by rw [e]; decide)
            have HE2 : Hid (p.any offB = false → ∀ q ∈ M.take (k + 1), rowErr n q = 0) := fun h => HNX.out (rowErr_zero.2 ⟨HPL.out, any_off.1 h⟩)
            generalize p.any offB = bb at *
            clear HFE HNX
            go_wp2_with fail
            refine HCF.out.mono ?_
            rintro e w6 ⟨rfl, hb6⟩
            have hbel6 := hbel.trans (hb6.mono hz)
            clear hb6 hbel hct RD HCF
            cases bb with
            | true =>
              have HX := Lib.hid (HE1.out rfl)
              go_wp2
              go_ret
              exact ⟨by rw [HX.out]; rfl, hbel6⟩
            | false =>
              have HX := Lib.hid (HE2.out rfl)
              go_wp2
              go_roundw
              case rel => exact ⟨k + 1, by omega, by go_num, HX.out, hbel6⟩
              case measure => simp [intOf]; omega
          · have hpb : (((p.length : Nat) : Int) != (n : Int)) = true := by simp; omega
            have HX : Hid (r = 3) := by
              show _ = _
              have e : rowErr n p = 3 := by unfold rowErr; rw [if_pos hpl]
              rw [← e]
              exact HFE.out (by rw [e]; decide)
            clear hpl HFE HNX
            go_wp2
            go_ret
            exact ⟨by rw [HX.out]; rfl, hbel⟩
        · obtain rfl : k = n := by omega
          have HZ : Hid (∀ q ∈ M, rowErr k q = 0) := fun q hq => HA.out q (by rw [List.take_of_length_le (by rw [HN.out]; exact Nat.le_refl _)]; exact hq)
          have HFZ := Lib.hid (firstErr_zero.2 HZ.out)
          obtain ⟨w0, rfl⟩ : ∃ w0, w0 = wr := ⟨_, rfl⟩
          clear HA
          go_wp2_with fail
          go_loopw [31] (fun i wr => ∃ j : Nat, j ≤ k ∧ i = .int .i64 j ∧ (∀ t, t < j → ent M t t = 0) ∧ Below w.heap.size w wr) (fun i _ => k - (intOf i).toNat)
          case atStart => exact ⟨0, Nat.zero_le _, rfl, fun t ht => by omega, hbel⟩
          case round =>
            obtain ⟨j, hj, rfl, hall, hbel3⟩ := hrel
            have HA := Lib.hid hall
            clear hall hbel
            have hz := hbel3.size
            by_cases hjk : j < k
            · obtain ⟨b, o, a', c', rfl, hb, hcell, _, _, _, hrd⟩ := HR.out.at_ hjk
              have hjM : j < M.length := by rw [HN.out]; exact hjk
              have hlen := (rowErr_zero.1 (HZ.out _ (memR hjM))).1
              have hct : wr.cell? ⟨b, o + j, none⟩ = some (.slice a' k c') := by
                rw [(hbel3.cell (by show b < _; omega)), hcell, hlen]
              rw [hlen] at hrd
              obtain ⟨b2, o2, rfl, hb2, hcell2⟩ := hrd.at_ hjk
              have hc2 : wr.cell? ⟨b2, o2 + j, none⟩ = some (.int .i64 (ent M j j)) := by
                rw [(hbel3.cell (by show b2 < _; omega))]; exact hcell2
              clear hcell hrd hcell2 hlen
              by_cases he : ent M j j = 0
              · have HX : Hid (∀ t, t < j + 1 → ent M t t = 0) := fun t ht => by
                  by_cases htj : t = j
                  · subst htj; exact he
                  · exact HA.out t (by omega)
                generalize ent M j j = ee at *
                have heb : (ee != 0) = false := by simpa using he
                clear he
                go_wp2
                go_roundw
                case rel => exact ⟨j + 1, by omega, by go_num, HX.out, hbel3⟩
                case measure => simp [intOf]; omega
              · have HX : Hid (r = 3) := HT3.out HFZ.out (fun hd => he (hd j hjM))
                generalize ent M j j = ee at *
                have heb : (ee != 0) = true := by simpa using he
                clear he
                go_wp2
                go_ret
                exact ⟨by rw [HX.out]; rfl, hbel3⟩
            · obtain rfl : j = k := by omega
              have HX : Hid (r = 0) := HT2.out HFZ.out (fun i hi => HA.out i (by rw [← HN.out]; exact hi))
              go_wp2
              go_ret
              exact ⟨by rw [HX.out]; rfl, hbel3⟩
end Go.Proofs.Ytkenbogkjoafjaa

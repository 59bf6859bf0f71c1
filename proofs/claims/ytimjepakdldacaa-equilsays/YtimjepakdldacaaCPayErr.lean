/-
  plumeref.PayErr answers pchk, for every slice of slices of ints that a machine can hold; nothing that was there is written.
-/
import Derived.Test.YtimjepakdldacaaCFuncI
import Derived.Test.YtimjepakdldacaaPayMath
import Derived.Test.YtimjepakdldacaaOuts
import Derived.Test.YtimjepakdldacaaPureA
namespace Go.Proofs.Ytimjepakdldacaa
open Go.RowKit Fm
set_option linter.unusedVariables false

def offP (x : Int) : Bool := decide (x < -1000) || decide (1000 < x)
theorem payErr1_any (x : Int) (w : World) : Calls Try.prog 55 #[.int .i64 x] w fun e w' => e = .returned (.bool (offP x)) ∧ Below w.heap.size w w' := by
  by_cases h : x < -1000
  · have hb : offP x = true := by simp [offP, h]
    have HB := Lib.hid hb
    clear hb
    go_enter Try.func55, Try.ntmps55
    go_wp2
    go_ret
    exact ⟨by rw [HB.out]; rfl, Below.refl _ w⟩
  · by_cases h3 : 1000 < x
    · have hb : offP x = true := by simp [offP, h3]
      have HB := Lib.hid hb
      clear hb
      go_enter Try.func55, Try.ntmps55
      go_wp2
      go_ret
      exact ⟨by rw [HB.out]; rfl, Below.refl _ w⟩
    · have hb : offP x = false := by simp [offP, h, h3]
      have HB := Lib.hid hb
      clear hb
      go_enter Try.func55, Try.ntmps55
      go_wp2
      go_ret
      exact ⟨by rw [HB.out]; rfl, Below.refl _ w⟩
theorem any_offP {l : List Int} : l.any offP = false ↔ ∀ x ∈ l, -1000 ≤ x ∧ x ≤ 1000 := by
  rw [List.any_eq_false]
  constructor
  · intro h x hx
    have := h x hx
    simp [offP] at this
    omega
  · intro h x hx
    have := h x hx
    simp [offP]
    omega

set_option maxHeartbeats 1000000 in
set_option maxRecDepth 100000 in
theorem payErr_any (a : Option Addr) (m c : Nat) (M : List (List Int)) (w : World) (B : Nat) (hB : B ≤ w.heap.size) (hr : RdR w B a m M) (hm : m ≤ 17592186044416) (h8 : ∀ l ∈ M, l.length ≤ 17592186044416) :
    Calls Try.prog 32 #[.slice a m c] w fun e w' => e = .returned (.int .i64 (pchk M)) ∧ Below w.heap.size w w' := by
  obtain rfl := hr.1
  have HR := Lib.hid hr
  have H8 := Lib.hid h8
  clear hr h8
  by_cases h0 : M.length = 0
  · have HT : Hid (pchk M = 2) := by show _ = _; unfold pchk; rw [if_pos (.inl h0)]
    generalize pchk M = r at *
    go_enter Try.func32, Try.ntmps32
    go_wp2
    go_ret
    exact ⟨by rw [HT.out]; rfl, Below.refl _ w⟩
  · have hb0 : (((M.length : Nat) : Int) == 0) = false := by simp; intro h; simp [h] at h0
    by_cases h6 : 6 < M.length
    · have HT : Hid (pchk M = 2) := by show _ = _; unfold pchk; rw [if_pos (.inr h6)]
      generalize pchk M = r at *
      go_enter Try.func32, Try.ntmps32
      go_wp2
      go_ret
      exact ⟨by rw [HT.out]; rfl, Below.refl _ w⟩
    · have h6' : ¬ (6 : Int) < (M.length : Int) := by omega
      obtain ⟨b, o, a0', c0', ha0, hb0', hcell0, _, _, _, _⟩ := HR.out.at_ (show 0 < M.length by omega)
      subst ha0
      obtain ⟨k0, hk0⟩ : ∃ k0, (M.getD 0 []).length = k0 := ⟨_, rfl⟩
      rw [hk0, Nat.add_zero] at hcell0
      have HT : Hid (pchk M = firstPay k0 M) := by show _ = _; unfold pchk; rw [if_neg (by omega), hk0]
      obtain ⟨n, hn⟩ : ∃ n, M.length = n := ⟨_, rfl⟩
      have HN := Lib.hid hn
      have hk08 : k0 ≤ 17592186044416 := by rw [← hk0]; exact H8.out _ (memR (by omega))
      have hn0 : (0 : Int) < (n : Int) := by omega
      rw [hn] at hm h0 hb0 h6 h6' HR ⊢
      clear hn hk0
      generalize pchk M = r at *
      go_enter Try.func32, Try.ntmps32
      go_wp2_with fail
      go_loopw [15] (fun i wr => ∃ k : Nat, k ≤ n ∧ i = .int .i64 k ∧ (∀ q ∈ M.take k, payErr k0 q = 0) ∧ Below w.heap.size w wr) (fun i _ => n - (intOf i).toNat)
      case atStart => exact ⟨0, Nat.zero_le _, rfl, fun q hq => by simp at hq, Below.refl _ w⟩
      case round =>
        obtain ⟨k, hk, rfl, hall, hbel⟩ := hrel
        have HA := Lib.hid hall
        clear hall
        have hz := hbel.size
        by_cases hkn : k < n
        · obtain ⟨b', o', a', c', hba, hb, hcell, _, _, _, hrd⟩ := HR.out.at_ hkn
          injection hba with hba
          injection hba with e1 e2
          subst e1; subst e2
          have hkM : k < M.length := by rw [HN.out]; exact hkn
          have hct : wr.cell? ⟨b, o + k, none⟩ = some (.slice a' (M.getD k []).length c') := by
            rw [(hbel.cell (by show b < _; omega)), hcell]
          have hc0 : wr.cell? ⟨b, o, none⟩ = some (.slice a0' k0 c0') := by
            rw [(hbel.cell (by show b < _; omega)), hcell0]
          have RD := Lib.hid (hrd.below hbel hB)
          have hl8 := H8.out _ (memR hkM)
          have HFE : Hid (payErr k0 (M.getD k []) ≠ 0 → r = payErr k0 (M.getD k [])) := fun h => by
            rw [HT.out]
            exact firstPay_at hkM HA.out h
          have HNX : Hid (payErr k0 (M.getD k []) = 0 → ∀ q ∈ M.take (k + 1), payErr k0 q = 0) := fun h q hq => by
            have hsn : M.take (k + 1) = M.take k ++ [M.getD k []] := by
              rw [List.take_succ_eq_append_getElem hkM, List.getD_eq_getElem?_getD, List.getElem?_eq_getElem hkM]; rfl
            rw [hsn, List.mem_append] at hq
            rcases hq with hq | hq
            · exact HA.out q hq
            · rw [List.mem_singleton] at hq; subst hq; exact h
          clear hcell hrd HA
          generalize M.getD k [] = p at *
          by_cases hpl : p.length = k0
          · have hpb : (((p.length : Nat) : Int) != (k0 : Int)) = false := by simp [hpl]
            by_cases hz0 : p.length = 0
            · have hzb : (((p.length : Nat) : Int) == 0) = true := by simp [hz0]
              have HX : Hid (r = 2) := by
                have e : payErr k0 p = 2 := by unfold payErr; rw [if_neg (by simpa using hpl), if_pos (.inl hz0)]
                show _ = _
                rw [← e]; exact HFE.out (by rw [e]; decide)
              clear hpl hz0
              generalize p.length = pl at *
              go_wp2
              go_ret
              exact ⟨by rw [HX.out]; rfl, hbel⟩
            · have hzb : (((p.length : Nat) : Int) == 0) = false := by simp; intro h; simp [h] at hz0
              by_cases hp6 : 6 < p.length
              · have HX : Hid (r = 2) := by
                  have e : payErr k0 p = 2 := by unfold payErr; rw [if_neg (by simpa using hpl), if_pos (.inr hp6)]
                  show _ = _
                  rw [← e]; exact HFE.out (by rw [e]; decide)
                clear hpl
                generalize p.length = pl at *
                go_wp2
                go_ret
                exact ⟨by rw [HX.out]; rfl, hbel⟩
              · have hp6' : ¬ (6 : Int) < ((p.length : Nat) : Int) := by omega
                have HCF := Lib.hid (containsFuncI_any 55 (fun _ _ => rfl) #[] offP a' p.length c' p wr B (by omega) RD.out hl8 (fun x hx w1 hb1 => by simpa using payErr1_any x w1))
                have HE1 : Hid (p.any offP = true → r = 1) := fun h => by
                  have e : payErr k0 p = 1 := by
                    unfold payErr
                    rw [if_neg (by simpa using hpl), if_neg (by omega), if_neg (fun hh => by rw [any_offP.2 hh] at h; cases h)]
                  rw [← e]
                  exact HFE.out (by rw [e]; decide)
                have HE2 : Hid (p.any offP = false → ∀ q ∈ M.take (k + 1), payErr k0 q = 0) := fun h => HNX.out (payErr_zero.2 ⟨hpl, by omega, any_offP.1 h⟩)
                clear HFE HNX hpl hz0 hp6
                generalize p.length = pl at *
                generalize p.any offP = pa at *
                go_wp2_with fail
                refine HCF.out.mono ?_
                rintro e w1 ⟨rfl, hb1⟩
                have hbel1 := ext_trans hbel hb1
                cases pa with
                | true =>
                  have HX := Lib.hid (HE1.out rfl)
                  clear HCF HE1 HE2
                  go_wp2
                  go_ret
                  exact ⟨by rw [HX.out]; rfl, hbel1⟩
                | false =>
                  have HX := Lib.hid (HE2.out rfl)
                  clear HCF HE1 HE2
                  go_wp2
                  go_roundw
                  case rel => exact ⟨k + 1, by omega, by go_num, HX.out, hbel1⟩
                  case measure => simp [intOf]; omega
          · have hpb : (((p.length : Nat) : Int) != (k0 : Int)) = true := by rw [bne_iff_ne]; omega
            have HX : Hid (r = 3) := by
              have e : payErr k0 p = 3 := by unfold payErr; rw [if_pos (by simpa using hpl)]
              show _ = _
              rw [← e]; exact HFE.out (by rw [e]; decide)
            clear hpl
            generalize p.length = pl at *
            go_wp2
            go_ret
            exact ⟨by rw [HX.out]; rfl, hbel⟩
        · obtain rfl : k = n := by omega
          have HX : Hid (r = 0) := by
            show _ = _
            rw [HT.out]
            refine firstPay_zero.2 (fun q hq => HA.out q ?_)
            rw [List.take_of_length_le (by rw [HN.out]; exact Nat.le_refl _)]
            exact hq
          go_wp2
          go_ret
          exact ⟨by rw [HX.out]; rfl, hbel⟩
end Go.Proofs.Ytimjepakdldacaa

/-
  Package seats: sum and Check, whatever is handed in that a machine can hold; nothing that was there is written.
-/
import Derived.Test.YtedllchlhdjanaaSeatP
namespace Go.Proofs.Ytedllchlhdjanaa
open Go.RowKit Fm
set_option linter.unusedVariables false

set_option maxHeartbeats 1000000 in
set_option maxRecDepth 100000 in
theorem sumS_any (a : Option Addr) (m c : Nat) (l : List Int) (w : World) (B : Nat) (hr : Rd w B a m l) (hm : m ≤ 1000) (hb : ∀ x ∈ l, -1000000000 ≤ x ∧ x ≤ 1000000000) :
    Calls Try.prog 24 #[.slice a m c] w fun e w' => e = .returned (.int .i64 l.sum) ∧ w = w' := by
  have HR := Lib.hid hr
  have HL := Lib.hid hr.1
  have HB := Lib.hid hb
  obtain ⟨res, hres⟩ : ∃ res, l.sum = res := ⟨_, rfl⟩
  have HRES := Lib.hid hres
  rw [hres]
  clear hr hb hres
  go_enter Try.func24, Try.ntmps24
  go_wp2_with fail
  go_loop [3, 8] (fun sv iv => ∃ (k : Nat) (s : Int), k ≤ m ∧ iv = .int .i64 k ∧ sv = .int .i64 s ∧ s = (l.take k).sum ∧ -1000000000 * (k : Int) ≤ s ∧ s ≤ 1000000000 * (k : Int)) (fun _ iv => m - (intOf iv).toNat)
  case atStart => exact ⟨0, 0, Nat.zero_le _, rfl, rfl, rfl, by omega, by omega⟩
  case round =>
    obtain ⟨k, s, hk, rfl, rfl, hs, h1, h2⟩ := hrel
    have HS := Lib.hid hs
    clear hs
    by_cases hkm : k < m
    · obtain ⟨b, o, rfl, hb, hcell⟩ := HR.out.at_ hkm
      have hkl : k < l.length := by rw [HL.out]; omega
      have hx := HB.out _ (getD_mem l k hkl)
      have HN : Hid ((l.take (k + 1)).sum = (l.take k).sum + l.getD k 0) := by show _ = _; rw [take_succ_getD l k hkl, List.sum_append]; simp
      clear hkl
      generalize l.getD k 0 = x at *
      go_wp2
      go_round
      case rel => exact ⟨k + 1, s + x, by omega, by go_num, rfl, by rw [HN.out, HS.out], by omega, by omega⟩
      case measure => simp [intOf]; omega
    · obtain rfl : k = m := by omega
      have HX : Hid (res = s) := by show _ = _; rw [← HRES.out, HS.out, List.take_of_length_le (by rw [HL.out]; exact Nat.le_refl _)]
      go_wp2
      go_ret
      exact ⟨by rw [HX.out]; rfl, rfl⟩

theorem sum_zero : ∀ (l : List Int), (∀ x ∈ l, 0 ≤ x) → (l.sum = 0 ↔ ∀ x ∈ l, x = 0) := by
  have hnn : ∀ (l : List Int), (∀ x ∈ l, 0 ≤ x) → 0 ≤ l.sum := fun l => by
    induction l with
    | nil => intro _; simp
    | cons a l ih => intro h; rw [List.sum_cons]; have := ih (fun x hx => h x (by simp [hx])); have := h a (by simp); omega
  intro l
  induction l with
  | nil => intro _; simp
  | cons a l ih =>
    intro h
    have h1 := ih (fun x hx => h x (by simp [hx]))
    have h2 := hnn l (fun x hx => h x (by simp [hx]))
    have h3 := h a (by simp)
    rw [List.sum_cons]
    constructor
    · intro e x hx
      rw [List.mem_cons] at hx
      rcases hx with rfl | hx
      · omega
      · exact h1.1 (by omega) x hx
    · intro e
      have := h1.2 (fun x hx => e x (by simp [hx]))
      have := e a (by simp)
      omega

set_option maxHeartbeats 1000000 in
set_option maxRecDepth 100000 in
theorem scheck_any (a : Option Addr) (m c : Nat) (P : List Int) (h : Int) (w : World) (hL : LstS w a m c P) :
    Calls Try.prog 11 #[.slice a m c, .int .i64 h] w fun e w' => e = .returned (.int .i64 (pchk P h)) ∧ w = w' := by
  obtain ⟨hr, hm, hmc⟩ := hL
  have hln : P.length = m := hr.1
  by_cases h1 : P.length = 0 ∨ 8 < P.length
  · have e : pchk P h = 2 := by unfold pchk; rw [if_pos h1]
    rw [e]
    rw [hln] at h1
    clear e hr hln
    rcases h1 with h1 | h1
    · subst h1
      go_enter Try.func11, Try.ntmps11
      go_wp2
      go_ret
      exact ⟨rfl, rfl⟩
    · go_enter Try.func11, Try.ntmps11
      go_wp2
      go_ret
      exact ⟨rfl, rfl⟩
  · have e : pchk P h = if ¬ (∀ x ∈ P, 0 ≤ x ∧ x ≤ 1000000) then 1 else if (∀ x ∈ P, x = 0) then 4 else if h < 0 ∨ 100 < h then 1 else 0 := by unfold pchk; rw [if_neg h1]
    have HBAD : Hid (∀ k, k < m → ¬ (0 ≤ P.getD k 0 ∧ P.getD k 0 ≤ 1000000) → pchk P h = 1) := fun k hk hb => by
      rw [e, if_pos (fun q => hb (q _ (getD_mem P k (by rw [hln]; exact hk))))]
    have HEND : Hid ((∀ j, j < m → 0 ≤ P.getD j 0 ∧ P.getD j 0 ≤ 1000000) → (∀ x ∈ P, 0 ≤ x ∧ x ≤ 1000000) ∧ pchk P h = if P.sum = 0 then 4 else if h < 0 ∨ 100 < h then 1 else 0) := fun hall => by
      have hb : ∀ x ∈ P, 0 ≤ x ∧ x ≤ 1000000 := fun x hx => by
        obtain ⟨i, hi, rfl⟩ := List.getElem_of_mem hx
        rw [← getD_get hi]
        exact hall i (by omega)
      refine ⟨hb, ?_⟩
      rw [e, if_neg (by simpa using hb)]
      have := sum_zero P (fun x hx => (hb x hx).1)
      by_cases q : P.sum = 0
      · rw [if_pos q, if_pos (this.1 q)]
      · rw [if_neg q, if_neg (fun q2 => q (this.2 q2))]
    have QS : Hid ((∀ x ∈ P, 0 ≤ x ∧ x ≤ 1000000) → Calls Try.prog 24 #[.slice a m c] w fun e w' => e = .returned (.int .i64 P.sum) ∧ w = w') := fun hb =>
      sumS_any a m c P w w.heap.size hr (by omega) (fun x hx => by have := hb x hx; omega)
    have hm1 : 1 ≤ m := by omega
    have hm8 : m ≤ 8 := by omega
    have HR := Lib.hid hr
    clear e h1 hln hr hm
    generalize pchk P h = res at *
    go_enter Try.func11, Try.ntmps11
    go_wp2_with fail
    go_loop [17] (fun iv => ∃ k : Nat, k ≤ m ∧ iv = .int .i64 k ∧ ∀ j, j < k → 0 ≤ P.getD j 0 ∧ P.getD j 0 ≤ 1000000) (fun iv => m - (intOf iv).toNat)
    case atStart => exact ⟨0, Nat.zero_le _, rfl, fun j hj => by omega⟩
    case round =>
      obtain ⟨k, hk, rfl, hall⟩ := hrel
      have HALL := Lib.hid hall
      clear hall
      by_cases hkm : k < m
      · obtain ⟨b, o, rfl, hb, hcell⟩ := HR.out.at_ hkm
        have HB := Lib.hid (HBAD.out k hkm)
        have HN : Hid (0 ≤ P.getD k 0 ∧ P.getD k 0 ≤ 1000000 → ∀ j, j < k + 1 → 0 ≤ P.getD j 0 ∧ P.getD j 0 ≤ 1000000) := fun q j hj => by
          by_cases e : j = k
          · subst e; exact q
          · exact HALL.out j (by omega)
        generalize P.getD k 0 = x at *
        by_cases c1 : x < 0
        · obtain rfl : res = 1 := HB.out (by omega)
          go_wp2
          go_ret
          exact ⟨rfl, rfl⟩
        · by_cases c2 : 1000000 < x
          · obtain rfl : res = 1 := HB.out (by omega)
            go_wp2
            go_ret
            exact ⟨rfl, rfl⟩
          · have HX := Lib.hid (HN.out ⟨by omega, by omega⟩)
            go_wp2
            go_round
            case rel => exact ⟨k + 1, by omega, by go_num, HX.out⟩
            case measure => simp [intOf]; omega
      · obtain rfl : k = m := by omega
        obtain ⟨hb, he⟩ := HEND.out HALL.out
        have Q := Lib.hid (QS.out hb)
        have HE := Lib.hid he
        clear hb he HEND HBAD
        generalize P.sum = s at *
        go_wp2_with fail
        refine Q.out.mono ?_
        rintro e w' ⟨rfl, rfl⟩
        by_cases c0 : s = 0
        · rw [if_pos c0] at HE
          obtain rfl : res = 4 := HE.out
          subst c0
          go_wp2
          go_ret
          exact ⟨rfl, rfl⟩
        · rw [if_neg c0] at HE
          have c0b : (s == 0) = false := by simpa using c0
          clear c0
          by_cases c1 : h < 0
          · rw [if_pos (.inl c1)] at HE
            obtain rfl : res = 1 := HE.out
            go_wp2
            go_ret
            exact ⟨rfl, rfl⟩
          · by_cases c2 : 100 < h
            · rw [if_pos (.inr c2)] at HE
              obtain rfl : res = 1 := HE.out
              go_wp2
              go_ret
              exact ⟨rfl, rfl⟩
            · rw [if_neg (by omega)] at HE
              obtain rfl : res = 0 := HE.out
              go_wp2
              go_ret
              exact ⟨rfl, rfl⟩
theorem sCheck : SCheck := fun a m c P h w hL => (scheck_any a m c P h w hL).mono fun _ _ ⟨h1, h2⟩ => ⟨h1, h2 ▸ Below.refl _ w⟩
end Go.Proofs.Ytedllchlhdjanaa

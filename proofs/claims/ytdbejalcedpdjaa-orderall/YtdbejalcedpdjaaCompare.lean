/-
  slices.Compare at slices of ints answers cmpL; nothing is written.
-/
import Derived.Test.YtdbejalcedpdjaaSlc
import Derived.Test.YtdbejalcedpdjaaAllSpec
import Derived.KernelRfl
namespace Go.Proofs.Ytdbejalcedpdjaa
open Go.RowKit Fm
set_option linter.unusedVariables false

theorem drop_getD (l : List Int) (k : Nat) (h : k < l.length) : l.drop k = l.getD k 0 :: l.drop (k + 1) := by
  rw [List.drop_eq_getElem_cons h, getD_get h]

set_option maxHeartbeats 400000 in
theorem compare_any (p q : List Int) (a a2 : Option Addr) (n c n2 c2 : Nat) (w : World) (B : Nat) (hp : Rd w B a n p) (hq : Rd w B a2 n2 q) (hn : n ≤ 1000000) (hn2 : n2 ≤ 1000000) (r : Int) (hr : cmpL p q = r) :
    Calls Try.prog 26 #[.slice a n c, .slice a2 n2 c2] w fun e w' => e = .returned (.int .i64 r) ∧ w = w' := by
  have HR := Lib.hid hr
  have HP := Lib.hid hp
  have HQ := Lib.hid hq
  have HL := Lib.hid hp.1
  have HL2 := Lib.hid hq.1
  clear hr hp hq
  go_enter Try.func26, Try.ntmps26
  go_wp2
  go_loop [11] (fun i => ∃ j : Nat, j ≤ n ∧ i = .int .i64 j ∧ cmpL (p.drop j) (q.drop j) = r) (fun i => n - (intOf i).toNat)
  case atStart => exact ⟨0, Nat.zero_le _, rfl, by simpa using HR.out⟩
  case round =>
    obtain ⟨j, hj, rfl, hc⟩ := hrel
    have HC := Lib.hid hc
    clear hc
    by_cases hlt : j < n
    · obtain ⟨b, o, rfl, _, hx⟩ := HP.out.at_ hlt
      have hd := drop_getD p j (by rw [HL.out]; exact hlt)
      rw [hd] at HC
      clear hd
      generalize p.getD j 0 = x at *
      by_cases hlt2 : j < n2
      · obtain ⟨b2, o2, rfl, _, hy⟩ := HQ.out.at_ hlt2
        have hd := drop_getD q j (by rw [HL2.out]; exact hlt2)
        rw [hd] at HC
        clear hd
        generalize q.getD j 0 = y at *
        go_wp2_with fail
        refine (Try.cmp_Compare_int x y w).mono ?_
        rintro e w' ⟨rfl, rfl⟩
        unfold Lib.compareInt
        have h3 := HC.out
        simp only [cmpL] at h3
        by_cases h1 : x < y
        · rw [if_pos h1] at h3
          rw [if_pos h1]
          subst h3
          clear HC HR
          go_wp2
          go_ret
          exact ⟨rfl, rfl⟩
        · by_cases h2 : y < x
          · rw [if_neg h1, if_pos h2] at h3
            rw [if_neg h1, if_pos h2]
            subst h3
            clear HC HR
            go_wp2
            go_ret
            exact ⟨rfl, rfl⟩
          · rw [if_neg h1, if_neg h2] at h3
            rw [if_neg h1, if_neg h2]
            have H3 := Lib.hid h3
            clear HC HR h3
            go_wp2
            go_round
            case rel => exact ⟨j + 1, by omega, by go_num, H3.out⟩
            case measure => simp [intOf]; omega
      · have h3 := HC.out
        have hq0 : q.drop j = [] := List.drop_eq_nil_of_le (by rw [HL2.out]; omega)
        rw [hq0] at h3
        simp only [cmpL] at h3
        subst h3
        clear HC HR hq0
        go_wp2
        go_ret
        exact ⟨rfl, rfl⟩
    · have h3 := HC.out
      have hp0 : p.drop j = [] := List.drop_eq_nil_of_le (by rw [HL.out]; omega)
      rw [hp0] at h3
      obtain rfl : j = n := by omega
      by_cases hlt2 : j < n2
      · rw [drop_getD q j (by rw [HL2.out]; exact hlt2)] at h3
        simp only [cmpL] at h3
        subst h3
        clear HC HR hp0
        go_wp2
        go_ret
        exact ⟨rfl, rfl⟩
      · have hq0 : q.drop j = [] := List.drop_eq_nil_of_le (by rw [HL2.out]; omega)
        rw [hq0] at h3
        simp only [cmpL] at h3
        subst h3
        clear HC HR hp0 hq0
        go_wp2
        go_ret
        exact ⟨rfl, rfl⟩
end Go.Proofs.Ytdbejalcedpdjaa

/-
  equil.Check answers echk, for every two slices of slices of ints that a machine can hold; nothing is written.
-/
import Derived.Test.YtimjepakdldacaaCSaCheck
import Derived.Test.YtimjepakdldacaaEquilP
import Derived.BigQuiet
import Derived.Deep.QuietTactic
namespace Go.Proofs.Ytimjepakdldacaa
open Go.RowKit Fm
set_option linter.unusedVariables false

set_option maxHeartbeats 1000000 in
set_option maxRecDepth 100000 in
theorem eqCheck_any (a : Option Addr) (m c : Nat) (A : List (List Int)) (b : Option Addr) (n d : Nat) (B : List (List Int)) (w : World) (ta : TabIn w a m A) (tb : TabIn w b n B) :
    Calls Try.prog 12 #[.slice a m c, .slice b n d] w fun e w' => e = .returned (.int .i64 (echk A B)) ∧ Below w.heap.size w w' := by
  have QA := Lib.hid (saCheck_any a m c A w ta)
  have QB := Lib.hid (saCheck_any b n d B w tb)
  by_cases h1 : pchk A = 0
  · by_cases h2 : pchk B = 0
    · have pa := pchk_ok h1
      have pb := pchk_ok h2
      have HR : Hid (echk A B = if A.length ≠ B.length ∨ (A.getD 0 []).length ≠ (B.getD 0 []).length then 3 else 0) := by
        show _ = _
        unfold echk
        rw [if_neg (by simpa using h1), if_neg (by simpa using h2)]
      rw [h1] at QA
      rw [h2] at QB
      obtain ⟨_, _, ra, _, _⟩ := ta
      obtain ⟨_, _, rb, _, _⟩ := tb
      have la := ra.1
      have lb := rb.1
      have a1 := pa.r1
      have b1 := pb.r1
      obtain ⟨ba, oa, a0, ca, rfl, _, hca, _, _, _, _⟩ := ra.at_ (show 0 < m by omega)
      obtain ⟨bb, ob, b0, cb, rfl, _, hcb, _, _, _, _⟩ := rb.at_ (show 0 < n by omega)
      rw [Nat.add_zero] at hca hcb
      rw [la, lb] at HR
      have hm0 : (0 : Int) < (m : Int) := by omega
      have hn0 : (0 : Int) < (n : Int) := by omega
      clear h1 h2 pa pb ra rb la lb
      generalize (A.getD 0 []).length = k at *
      generalize (B.getD 0 []).length = l at *
      generalize echk A B = r at *
      by_cases e1 : m = n
      · have f1 : ((m : Int) != (n : Int)) = false := by simp [e1]
        by_cases e2 : k = l
        · have f2 : ((k : Int) != (l : Int)) = false := by simp [e2]
          have HX : Hid (r = 0) := by show _ = _; rw [HR.out, if_neg (by omega)]
          clear e1 e2 HR
          go_enter Try.func12, Try.ntmps12
          go_wp2_with fail
          refine QA.out.mono ?_
          rintro e w1 ⟨rfl, rfl⟩
          go_wp2_with fail
          refine QB.out.mono ?_
          rintro e w1 ⟨rfl, rfl⟩
          clear QA QB
          go_wp2_with fail
          go_quiet (fail)
          go_wp2
          go_ret
          exact ⟨by rw [HX.out]; rfl, below_drewN (Below.refl _ _) _⟩
        · have f2 : ((k : Int) != (l : Int)) = true := by simp; omega
          have HX : Hid (r = 3) := by show _ = _; rw [HR.out, if_pos (by omega)]
          clear e1 e2 HR
          go_enter Try.func12, Try.ntmps12
          go_wp2_with fail
          refine QA.out.mono ?_
          rintro e w1 ⟨rfl, rfl⟩
          go_wp2_with fail
          refine QB.out.mono ?_
          rintro e w1 ⟨rfl, rfl⟩
          clear QA QB
          go_wp2_with fail
          go_quiet (fail)
          go_wp2
          go_ret
          exact ⟨by rw [HX.out]; rfl, below_drewN (Below.refl _ _) _⟩
      · have f1 : ((m : Int) != (n : Int)) = true := by simp; omega
        have HX : Hid (r = 3) := by show _ = _; rw [HR.out, if_pos (by omega)]
        clear e1 HR
        go_enter Try.func12, Try.ntmps12
        go_wp2_with fail
        refine QA.out.mono ?_
        rintro e w1 ⟨rfl, rfl⟩
        go_wp2_with fail
        refine QB.out.mono ?_
        rintro e w1 ⟨rfl, rfl⟩
        clear QA QB
        go_wp2_with fail
        go_quiet (fail)
        go_wp2
        go_ret
        exact ⟨by rw [HX.out]; rfl, below_drewN (Below.refl _ _) _⟩
    · have HX : Hid (echk A B = pchk B) := by
        show _ = _
        unfold echk
        rw [if_neg (by simpa using h1), if_pos h2]
      rw [HX.out]
      rw [h1] at QA
      have hne : (pchk B != 0) = true := by simpa using h2
      clear h1 h2 HX
      generalize pchk B = r at *
      go_enter Try.func12, Try.ntmps12
      go_wp2_with fail
      refine QA.out.mono ?_
      rintro e w1 ⟨rfl, rfl⟩
      go_wp2_with fail
      refine QB.out.mono ?_
      rintro e w1 ⟨rfl, rfl⟩
      go_wp2
      go_ret
      exact ⟨rfl, Below.refl _ _⟩
  · have HX : Hid (echk A B = pchk A) := by
      show _ = _
      unfold echk
      rw [if_pos h1]
    rw [HX.out]
    have hne : (pchk A != 0) = true := by simpa using h1
    clear h1 HX QB
    generalize pchk A = r at *
    go_enter Try.func12, Try.ntmps12
    go_wp2_with fail
    refine QA.out.mono ?_
    rintro e w1 ⟨rfl, rfl⟩
    go_wp2
    go_ret
    exact ⟨rfl, Below.refl _ _⟩

theorem eCheck : ECheck := eqCheck_any
end Go.Proofs.Ytimjepakdldacaa

/-
  plumeref.GameErr: what it answers; nothing that was there is written.
-/
import Derived.Test.YtimjepakdldacaaEquilP
import Derived.Test.YtimjepakdldacaaCPayErr
import Derived.Test.YtimjepakdldacaaSqPay
import Derived.BigQuiet
import Derived.Deep.QuietTactic
namespace Go.Proofs.Ytimjepakdldacaa
open Go.RowKit Fm
set_option linter.unusedVariables false

set_option maxHeartbeats 1000000 in
set_option maxRecDepth 100000 in
theorem gameErr_any (a b : Option Addr) (m c n d : Nat) (A B : List (List Int)) (w : World) (ha : RdR w w.heap.size a m A) (hb : RdR w w.heap.size b n B) (hm : m ≤ 17592186044416) (hn : n ≤ 17592186044416) (h8 : ∀ l ∈ A, l.length ≤ 17592186044416) (h9 : ∀ l ∈ B, l.length ≤ 17592186044416) :
    Calls Try.prog 11 #[.slice a m c, .slice b n d] w fun e w' => e = .returned (.int .i64 (echk A B)) ∧ Below w.heap.size w w' := by
  have QA := Lib.hid (payErr_any a m c A w w.heap.size (Nat.le_refl _) ha hm h8)
  have QB : Hid (∀ W, Below w.heap.size w W → Calls Try.prog 32 #[.slice b n d] W fun e w' => e = .returned (.int .i64 (pchk B)) ∧ Below W.heap.size W w') := fun W hW => payErr_any b n d B W W.heap.size (Nat.le_refl _) (rdr_ext hb hW) hn h9
  by_cases h1 : pchk A = 0
  · by_cases h2 : pchk B = 0
    · have e : echk A B = if A.length ≠ B.length ∨ (A.getD 0 []).length ≠ (B.getD 0 []).length then 3 else 0 := by unfold echk; rw [if_neg (by simpa using h1), if_neg (by simpa using h2)]
      have pa := pchk_ok h1
      have pb := pchk_ok h2
      rw [h1] at QA
      rw [h2] at QB
      have hma : A.length = m := ha.1
      have hnb : B.length = n := hb.1
      have hm1 := pa.r1
      have hn1 := pb.r1
      have hk6 := pa.k6
      have hj6 := pb.k6
      obtain ⟨x1, ba, oa, rfl, hba, hsa⟩ := rdr_sqP ha pa
      obtain ⟨x2, bb, ob, rfl, hbb, hsb⟩ := rdr_sqP hb pb
      clear x1 x2
      obtain ⟨b0, o0, c0, _, hr0, _, _, _⟩ := hsa 0 (by omega)
      obtain ⟨b1, o1, c1, _, hr1, _, _, _⟩ := hsb 0 (by omega)
      rw [Nat.add_zero] at hr0 hr1
      rw [hma, hnb] at e
      rw [hma] at hm1
      rw [hnb] at hn1
      generalize (A.getD 0 []).length = ka at *
      generalize (B.getD 0 []).length = kb at *
      have E := Lib.hid e
      clear e h1 h2 pa pb hma hnb hsa hsb ha hb h8 h9
      generalize echk A B = res at *
      have f1 : (0 : Int) < (m : Int) := by omega
      have f2 : (0 : Int) < (n : Int) := by omega
      have f3 : 0 < m := hm1
      have f4 : 0 < n := hn1
      go_enter Try.func11, Try.ntmps11
      go_wp2_with fail
      refine QA.out.mono ?_
      rintro e w1 ⟨rfl, hb1⟩
      go_wp2_with fail
      refine (QB.out w1 hb1).mono ?_
      rintro e w2 ⟨rfl, hb2⟩
      have hbe := ext_trans hb1 hb2
      have t0 := (hbe.cell (p := ⟨ba, oa, none⟩) (by exact hba)).trans hr0
      have t1 := (hbe.cell (p := ⟨bb, ob, none⟩) (by exact hbb)).trans hr1
      clear QA QB hb1 hb2 hr0 hr1
      by_cases q1 : m = n
      · have d1 : ((m : Int) != (n : Int)) = false := by simp [q1]
        by_cases q2 : ka = kb
        · have d2 : ((ka : Int) != (kb : Int)) = false := by simp [q2]
          obtain rfl : res = 0 := by rw [E.out, if_neg (by omega)]
          clear q1 q2
          go_wp2_with fail
          go_quiet (fail)
          go_wp2
          go_ret
          exact ⟨rfl, below_drewN hbe _⟩
        · have d2 : ((ka : Int) != (kb : Int)) = true := by rw [bne_iff_ne]; omega
          obtain rfl : res = 3 := by rw [E.out, if_pos (by omega)]
          clear q1 q2
          go_wp2_with fail
          go_quiet (fail)
          go_wp2
          go_ret
          exact ⟨rfl, below_drewN hbe _⟩
      · have d1 : ((m : Int) != (n : Int)) = true := by rw [bne_iff_ne]; omega
        obtain rfl : res = 3 := by rw [E.out, if_pos (by omega)]
        clear q1
        go_wp2_with fail
        go_quiet (fail)
        go_wp2
        go_ret
        exact ⟨rfl, below_drewN hbe _⟩
    · have e : echk A B = pchk B := by unfold echk; rw [if_neg (by simpa using h1), if_pos h2]
      rw [e]
      rw [h1] at QA
      have hne : (pchk B != 0) = true := by simpa using h2
      clear e h1 h2 ha hb h8 h9
      generalize pchk B = r at *
      go_enter Try.func11, Try.ntmps11
      go_wp2_with fail
      refine QA.out.mono ?_
      rintro e w1 ⟨rfl, hb1⟩
      go_wp2_with fail
      refine (QB.out w1 hb1).mono ?_
      rintro e w2 ⟨rfl, hb2⟩
      have hbe := ext_trans hb1 hb2
      clear QA QB hb1 hb2
      go_wp2
      go_ret
      exact ⟨rfl, hbe⟩
  · have e : echk A B = pchk A := by unfold echk; rw [if_pos h1]
    rw [e]
    have hne : (pchk A != 0) = true := by simpa using h1
    clear e h1 ha hb h8 h9 QB
    generalize pchk A = r at *
    go_enter Try.func11, Try.ntmps11
    go_wp2_with fail
    refine QA.out.mono ?_
    rintro e w1 ⟨rfl, hb1⟩
    clear QA
    go_wp2
    go_ret
    exact ⟨rfl, hb1⟩
end Go.Proofs.Ytimjepakdldacaa

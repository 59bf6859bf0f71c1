/-
  peak.Middle answers midA and mchk, whatever is handed in that a machine can hold; nothing that was there is written.
-/
import Derived.Test.YthcaipnlgbnfkaaCPFaces
import Derived.Test.YthcaipnlgbnfkaaCPSpread
import Derived.Test.YthcaipnlgbnfkaaCTFirsts
namespace Go.Proofs.Ythcaipnlgbnfkaa
open Go.RowKit Fm
set_option linter.unusedVariables false

set_option maxHeartbeats 1000000 in
set_option maxRecDepth 100000 in
theorem pMiddle : PMiddle := by
  intro al ml cl line a m c V w hL hT
  have QA := Lib.hid (pAll al ml cl line a m c V w hL hT)
  obtain ⟨hrl, hml, _⟩ := hL
  obtain ⟨B, hB, hr, hm, _⟩ := hT
  have hln : line.length = ml := hrl.1
  have hrw := hr.more hB
  obtain rfl := hr.1
  by_cases hc : lchk line V = 0
  · rw [allA_ok hc, hc] at QA
    cases hal : V.all (alongB line) with
    | false =>
      have h3 := mchk_form hc hal
      rw [midA_bad (by omega), h3]
      rw [hal] at QA
      clear hc hal h3 hrl hr hrw hln
      go_enter Try.func47, Try.ntmps47
      go_wp2_with fail
      refine QA.out.mono ?_
      rintro e w1 ⟨rfl, hb1⟩
      go_wp2
      go_ret2
      exact ⟨rfl, hb1⟩
    | true =>
      rw [hal] at QA
      by_cases h0 : V.length = 0
      · have h4 := mchk_none hc hal h0
        rw [midA_bad (by omega), h4]
        have hb0 : ((V.length : Int) == 0) = true := by simpa using h0
        clear hc hal h4 hrl hr hrw hln h0 hm
        generalize V.length = N at *
        go_enter Try.func47, Try.ntmps47
        go_wp2_with fail
        refine QA.out.mono ?_
        rintro e w1 ⟨rfl, hb1⟩
        go_wp2
        go_ret2
        exact ⟨rfl, hb1⟩
      · have h4 := mchk_ok hc hal h0
        rw [midA_ok h4, h4]
        have hcl : chk line.length line = 0 := by
          by_cases q : chk line.length line = 0
          · exact q
          · rw [lchk_bad q] at hc; exact hc
        have hcv : vchk ml V = 0 := by rw [lchk_ok hcl, hln] at hc; exact hc
        obtain ⟨hlp, h1, h6⟩ := chk_perms hcl
        rw [hln] at hlp h1 h6
        have hvp := vperm hcv
        have hvl := (vchk_zero hcv).2.1
        obtain ⟨hsl, hsm⟩ := spr_line hlp h1 hvp h0
        have QF : Hid (∀ W, Below w.heap.size w W → Calls Try.prog 86 #[.int .i64 ml, .slice a V.length c] W (OwnOut (firstsL ml V) W)) := fun W hW =>
          firsts_own ml a V.length c V W W.heap.size (Nat.le_refl _) (rdr_ext hrw hW) hm hcv
        have QS : Hid (∀ af cf W, Below w.heap.size w W → Rd W W.heap.size af ml (firstsL ml V) → Calls Try.prog 87 #[.slice al ml cl, .slice af ml cf] W fun e w' => ∃ v, e = .returned v ∧ w'.ownsRow W.heap.size 3 1 v (sprL V line).length (I (sprL V line)) ∧ Below W.heap.size W w') := fun af cf W hW hf =>
          spread_any h6 line hlp V hvl (by omega) al cl af cf W (rd_ext hrl hW) hf
        have hfl : (firstsL ml V).length = ml := fnL_len ml _
        have HFL := Lib.hid hfl
        rw [← hsm]
        rw [hsl] at QS
        have HSL := Lib.hid hsl
        clear hc hal h4 hrl hr hrw hln hcl hcv hlp hvp hsl hsm hfl
        generalize sprL V line = S at *
        have hN1 : 1 ≤ V.length := by omega
        have hb0 : ((V.length : Int) == 0) = false := beq_eq_false_iff_ne.2 (by omega)
        clear h0
        generalize V.length = N at *
        have hq : ((N : Int) - 1) / 2 = (((N - 1) / 2 : Nat) : Int) := by omega
        have hq2 : ((N : Int) - 1).tdiv 2 = (((N - 1) / 2 : Nat) : Int) := by rw [Int.tdiv_eq_ediv_of_nonneg (by omega)]; exact hq
        have HQ2 := Lib.hid hq2
        have hk : (N - 1) / 2 < N := by omega
        generalize (N - 1) / 2 = k at *
        clear hq
        obtain ⟨res, hres⟩ : ∃ res, S.getD k 0 = res := ⟨_, rfl⟩
        rw [hres]
        have HRES := Lib.hid hres
        clear hres
        go_enter Try.func47, Try.ntmps47
        go_wp2_with fail
        refine QA.out.mono ?_
        rintro e w1 ⟨rfl, hb1⟩
        clear QA
        go_wp2_with fail
        refine (QF.out w1 hb1).mono ?_
        rintro e w2 ⟨vf, rfl, own2, hb2⟩
        have hb12 := ext_trans hb1 hb2
        rw [HFL.out] at own2
        obtain ⟨af, cf, rfl, _, _⟩ := own_slice own2
        have RF := Lib.hid (Rd.of_own own2)
        clear QF hb1 hb2 own2
        go_wp2_with fail
        refine (QS.out af cf w2 hb12 RF.out).mono ?_
        rintro e w3 ⟨vs, rfl, own3, hb3⟩
        have hb13 := ext_trans hb12 hb3
        obtain ⟨a3, c3, rfl, _, _⟩ := own_slice own3
        obtain ⟨b, o, rfl, hbl, hcell⟩ := (Rd.of_own own3).at_ hk
        clear QS hb12 hb3 own3 RF
        rw [HRES.out] at hcell
        go_wp2
        go_ret2
        exact ⟨rfl, hb13⟩
  · have h3 := mchk_bad hc
    rw [midA_bad (by rw [h3]; exact hc), h3]
    rw [allA_bad hc] at QA
    have hne : (lchk line V != 0) = true := by simpa using hc
    clear hc h3 hrl hr hrw hln
    generalize lchk line V = r at *
    go_enter Try.func47, Try.ntmps47
    go_wp2_with fail
    refine QA.out.mono ?_
    rintro e w1 ⟨rfl, hb1⟩
    go_wp2
    go_ret2
    exact ⟨rfl, hb1⟩
end Go.Proofs.Ythcaipnlgbnfkaa

/-
  middle.Far answers farA and fchk, whatever is handed in that a machine can hold; nothing that was there is written.
-/
import Derived.Test.YthcaipnlgbnfkaaCMSum
import Derived.Test.YthcaipnlgbnfkaaCTCheck
import Derived.Test.YthcaipnlgbnfkaaMidP
namespace Go.Proofs.Ythcaipnlgbnfkaa
open Go.RowKit Fm
set_option linter.unusedVariables false

set_option maxHeartbeats 1000000 in
set_option maxRecDepth 100000 in
theorem mFar : MFar := by
  intro n a m c V ap mp cp p w hT hrp hmp hpc
  obtain ⟨B, hB, hr, hm, _⟩ := hT
  have QT := Lib.hid (tcheck_any n a m c V w B hB hr hm)
  obtain rfl := hr.1
  have HR := Lib.hid (hr.more hB)
  have HRP := Lib.hid hrp
  have HPC := Lib.hid hpc
  have HFC : Hid (fchk n V p = if vchk n V ≠ 0 then vchk n V else if chk n p ≠ 0 then 3 else 0) := rfl
  have HFA : Hid (farA n V p = if fchk n V p = 0 then (farT V p : Int) else 0) := rfl
  have HLP := Lib.hid hrp.1
  clear hr hm hrp hpc hB
  generalize farA n V p = fa at *
  generalize fchk n V p = fc at *
  by_cases hv : vchk n V = 0
  · rw [hv] at QT
    rw [if_neg (by simpa using hv)] at HFC
    have QC : Hid (∀ W, Below w.heap.size w W → Calls Try.prog 52 #[.int .i64 n, .slice ap mp cp] W fun e w' => e = .returned (.int .i64 (chk n p)) ∧ Below W.heap.size W w') := fun W hW =>
      check_any n ap mp cp p W W.heap.size (Nat.le_refl _) (rd_ext HRP.out hW)
    by_cases hc : chk n p = 0
    · rw [if_neg (by simpa using hc)] at HFC
      obtain rfl : fc = 0 := HFC.out
      rw [if_pos rfl] at HFA
      obtain rfl : fa = (farT V p : Int) := HFA.out
      rw [hc] at QC
      have hn := (vchk_zero hv).1
      obtain ⟨k, rfl⟩ : ∃ k : Nat, n = k := ⟨n.toNat, by omega⟩
      obtain ⟨_, hl, ho⟩ := chk_zero hc
      obtain rfl : mp = k := by have := HLP.out; omega
      have QS : Hid (∀ W, Below w.heap.size w W → Calls Try.prog 73 #[.slice a V.length c, .slice ap mp cp] W fun e w' => e = .returned (.tuple #[.int .i64 (farT V p : Nat), .int .i64 0]) ∧ Below W.heap.size W w') := fun W hW =>
        sumD_any (by omega) (by omega) (vperm hv) (vchk_zero hv).2.1 (isOrd_perm (by omega) ho) a ap c cp W (rdr_ext HR.out hW) (rd_ext HRP.out hW) HPC.out
      clear HFC HFA hv hc hn hl ho HLP
      generalize farT V p = ft at *
      go_enter Try.func45, Try.ntmps45
      go_wp2_with fail
      refine QT.out.mono ?_
      rintro e w1 ⟨rfl, hb1⟩
      go_wp2_with fail
      refine (QC.out w1 hb1).mono ?_
      rintro e w2 ⟨rfl, hb2⟩
      have hb12 := ext_trans hb1 hb2
      go_wp2_with fail
      refine (QS.out w2 hb12).mono ?_
      rintro e w3 ⟨rfl, hb3⟩
      have hb13 := ext_trans hb12 hb3
      go_wp2
      go_ret2
      exact ⟨rfl, hb13⟩
    · rw [if_pos (by simpa using hc)] at HFC
      obtain rfl : fc = 3 := HFC.out
      rw [if_neg (by omega)] at HFA
      obtain rfl : fa = 0 := HFA.out
      have h3 := chk_alt (n := n) (by have := (vchk_zero hv).1; omega) p hc
      rw [h3] at QC
      clear HFC HFA hv hc h3
      go_enter Try.func45, Try.ntmps45
      go_wp2_with fail
      refine QT.out.mono ?_
      rintro e w1 ⟨rfl, hb1⟩
      go_wp2_with fail
      refine (QC.out w1 hb1).mono ?_
      rintro e w2 ⟨rfl, hb2⟩
      have hb12 := ext_trans hb1 hb2
      go_wp2
      go_ret2
      exact ⟨rfl, hb12⟩
  · rw [if_pos (by simpa using hv)] at HFC
    obtain rfl : fc = vchk n V := HFC.out
    rw [if_neg hv] at HFA
    obtain rfl : fa = 0 := HFA.out
    clear HFC HFA
    generalize vchk n V = r at *
    have hne : (r != 0) = true := by simpa using hv
    clear hv
    go_enter Try.func45, Try.ntmps45
    go_wp2_with fail
    refine QT.out.mono ?_
    rintro e w1 ⟨rfl, hb1⟩
    go_wp2
    go_ret2
    exact ⟨rfl, hb1⟩
end Go.Proofs.Ythcaipnlgbnfkaa

/-
  plumekeep.powers returns true, if package power keeps its contracts; plumekeep.WeightsOf: what it returns; nothing that was there is written.
-/
import Derived.Test.YthcaipnlgbnfkaaPowerP
import Derived.Test.YthcaipnlgbnfkaaCGood
import Derived.Test.YthcaipnlgbnfkaaCEqual
import Derived.Test.YthcaipnlgbnfkaaCSumK
import Derived.Test.YthcaipnlgbnfkaaCWithin
import Derived.Test.YthcaipnlgbnfkaaPush
namespace Go.Proofs.Ythcaipnlgbnfkaa
open Go.RowKit Fm
set_option linter.unusedVariables false

theorem pw1 : swL [2, 1, 1] 3 = [3, 1, 1] := by decide +kernel
theorem pw2 : tuL [2, 1, 1] 3 = [4, 1, 1] := by decide +kernel
theorem pw3 : Wgt [2, 1, 1] 3 := ⟨by decide, by decide, by decide, by decide, by decide +kernel⟩


def weightsK (l : List Int) (k : Nat) : List Int := 1 :: (l.take k).map (fun x => x % 20)
def weightsOf (l : List Int) : List Int := weightsK l 5
theorem weightsK_len (l : List Int) (k : Nat) : (weightsK l k).length = min k l.length + 1 := by simp [weightsK]
theorem weightsK_succ (l : List Int) {k : Nat} (hk : k < l.length) : weightsK l (k + 1) = weightsK l k ++ [l.getD k 0 % 20] := by
  unfold weightsK; rw [take_succ_getD l k hk, List.map_append]; rfl
theorem weightsK_bd (l : List Int) (k : Nat) : ∀ x ∈ weightsK l k, 0 ≤ x ∧ x ≤ 19 := fun x hx => by
  unfold weightsK at hx
  rw [List.mem_cons, List.mem_map] at hx
  rcases hx with rfl | ⟨y, _, rfl⟩ <;> omega
theorem weights_pos (l : List Int) : 1 ≤ sN (wt (weightsOf l)) (weightsOf l).length := by
  have h := sN_mem (f := wt (weightsOf l)) (n := (weightsOf l).length) (i := 0) (by unfold weightsOf; rw [weightsK_len]; omega)
  have : wt (weightsOf l) 0 = 1 := by unfold wt weightsOf weightsK; simp
  omega
theorem weights_len (l : List Int) : 1 ≤ (weightsOf l).length ∧ (weightsOf l).length ≤ 6 := by unfold weightsOf; rw [weightsK_len]; omega
theorem sN_bd {f : Nat → Nat} {b n : Nat} (h : ∀ i, i < n → f i ≤ b) : sN f n ≤ b * n := by
  have h1 := sN_le (f := f) (g := fun _ => b) h
  have e1 : ∀ c m, sN (fun _ => c) m = c * m := fun c m => by
    induction m with
    | zero => rfl
    | succ m ih => rw [sN, ih, Nat.mul_succ]
  rwa [e1] at h1
/-- What plumekeep.WeightsOf leaves: weights, and a quota that may be. -/
def WtOut (l : List Int) (w : World) (e : Ending) (w' : World) : Prop :=
  ∃ a c, ∃ q : Nat, e = .returned (.tuple #[.slice a (weightsOf l).length c, .int .i64 q]) ∧ (weightsOf l).length ≤ c ∧ Rd w' w'.heap.size a (weightsOf l).length (weightsOf l) ∧ Wgt (weightsOf l) q ∧ Below w.heap.size w w'

set_option maxHeartbeats 1000000 in
set_option maxRecDepth 100000 in
theorem weightsOf_any (a : Option Addr) (m c : Nat) (l : List Int) (n0 : Int) (w : World) (hr : Rd w w.heap.size a m l) (hmc : m ≤ c) (hcm : c ≤ maxLen) (hwf : ∀ x ∈ l, Ok64 x) (hn0 : -9223372036854775808 ≤ n0) (hn1 : n0 ≤ 9223372036854775807) :
    Calls Try.prog 48 #[.slice a m c, .int .i64 n0] w (WtOut l w) := by
  have HR := Lib.hid hr
  have HL := Lib.hid hr.1
  have HW := Lib.hid hwf
  clear hr hwf
  unfold maxLen at hcm
  obtain ⟨H, hH⟩ : ∃ H : Nat, H = min m 5 := ⟨_, rfl⟩
  have hH5 : H ≤ 5 := by omega
  have hHm : H ≤ m := by omega
  have hmin : min (m : Int) 5 = (H : Int) := by omega
  have hmin2 : (if (5 : Int) < (m : Int) then (5 : Int) else (m : Int)) = (H : Int) := by split <;> omega
  have b1 : (0 : Int) ≤ (H : Int) := by omega
  have b2 : (H : Int) ≤ (c : Int) := by omega
  have HPE : Hid (weightsK l H = weightsOf l) := by
    show _ = _
    unfold weightsOf weightsK
    rw [hH]
    have hL := HL.out
    rcases Nat.le_total m 5 with h | h
    · rw [Nat.min_eq_left h, List.take_of_length_le (by omega), List.take_of_length_le (by omega)]
    · rw [Nat.min_eq_right h]
  clear hH
  have own0 := own_lit w 3 [1] #[.int .i64 1] rfl (by unfold maxLen; simp)
  have hb0 : Below w.heap.size w (w.alloc (.cells #[.int .i64 1] 3)) := (Below.refl _ w).alloc (Nat.le_refl _) _
  go_enter Try.func48, Try.ntmps48
  go_wp2_with fail
  clear hmin hmin2
  generalize w.alloc (.cells #[.int .i64 1] 3) = w1 at *
  go_loopw [6, 16] (fun sv iv wr => ∃ k : Nat, k ≤ H ∧ iv = .int .i64 k ∧ wr.ownsRow w.heap.size 3 1 sv (k + 1) (I (weightsK l k)) ∧ Below w.heap.size w wr) (fun _ iv _ => H - (intOf iv).toNat)
  case atStart => exact ⟨0, Nat.zero_le _, rfl, own0, hb0⟩
  case round =>
    obtain ⟨k, hk, rfl, own, hbel⟩ := hrel
    clear own0 hb0
    have hz := hbel.size
    by_cases hlt : k < H
    · obtain ⟨b, o, rfl, hb, hcell⟩ := HR.out.at_ (show k < m by omega)
      have hkl : k < l.length := by rw [HL.out]; omega
      have hck : wr.cell? ⟨b, o + k, none⟩ = some (.int .i64 (l.getD k 0)) := (hbel.cell hb).trans hcell
      have hwx := HW.out _ (getD_mem l k hkl)
      have HS := Lib.hid (weightsK_succ l hkl)
      clear hcell hkl
      generalize l.getD k 0 = x at *
      generalize weightsK l k = q at *
      go_wp2_with fail
      refine (within_any x 20 wr hwx.1 hwx.2 (by omega) (by omega)).mono ?_
      rintro e w' ⟨rfl, rfl⟩
      generalize x % 20 = y at *
      go_wp2_with (at_builtin; refine push1 rfl _ _ rfl wr w.heap.size _ (k + 1) q y rfl rfl (by exact own) hz (by omega) ?_)
      intro g4 cap4 w4 own4 gr4 _ _
      have hb4 := hbel.grown gr4 hz (own_not own)
      clear gr4 own hbel hck
      go_wp2
      go_roundw
      case rel => exact ⟨k + 1, by omega, by go_num, by rw [HS.out]; exact own4, hb4⟩
      case measure => simp [intOf]; omega
    · obtain rfl : k = H := by omega
      have hl := own_len own
      rw [HPE.out] at own hl
      have hbd : ∀ x ∈ weightsOf l, 0 ≤ x ∧ x ≤ 19 := weightsK_bd l 5
      have hsum := wt_sum (P := weightsOf l) (fun x hx => by have := hbd x hx; omega)
      have hpos := weights_pos l
      have hsb : sN (wt (weightsOf l)) (weightsOf l).length ≤ 114 := by
        have h1 := sN_bd (f := wt (weightsOf l)) (b := 19) (n := (weightsOf l).length) (fun i hi => by have := hbd _ (getD_mem _ i hi); unfold wt; omega)
        have := weights_len l
        omega
      obtain ⟨ga, gc, hgv, hgc, _⟩ := own_slice own
      subst hgv
      have HWG : Hid (∀ q : Nat, 1 ≤ q → q ≤ sN (wt (weightsOf l)) (weightsOf l).length → Wgt (weightsOf l) q) := fun q h1 h2 => ⟨by omega, by have := weights_len l; omega, fun x hx => by have := hbd x hx; omega, h1, h2⟩
      have R := Lib.hid (Rd.of_own own)
      have QN := Lib.hid (sumK_any ga (k + 1) gc (weightsOf l) wr wr.heap.size R.out (by omega) (fun x hx => by have := hbd x hx; omega))
      rw [hsum] at QN
      have HLW := Lib.hid hl
      generalize sN (wt (weightsOf l)) (weightsOf l).length = S at *
      clear own hbd hsum HPE hl
      go_wp2_with fail
      refine QN.out.mono ?_
      rintro e w' ⟨rfl, rfl⟩
      go_wp2_with fail
      refine (within_any n0 (S : Int) wr hn0 hn1 (by omega) (by omega)).mono ?_
      rintro e w' ⟨rfl, rfl⟩
      obtain ⟨d, hd⟩ : ∃ d : Nat, n0 % (S : Int) = d := ⟨(n0 % (S : Int)).toNat, by have := Int.emod_nonneg n0 (show (S : Int) ≠ 0 by omega); omega⟩
      have hdl : d < S := by have := Int.emod_lt_of_pos n0 (show 0 < (S : Int) by omega); omega
      rw [hd]
      have HQ := Lib.hid (HWG.out (1 + d) (by omega) (by omega))
      clear hd QN HWG
      go_wp2
      go_ret2
      exact ⟨ga, gc, 1 + d, by rw [HLW.out]; simp, by rw [HLW.out]; exact hgc, by rw [HLW.out]; exact R.out, HQ.out, hbel⟩
end Go.Proofs.Ythcaipnlgbnfkaa

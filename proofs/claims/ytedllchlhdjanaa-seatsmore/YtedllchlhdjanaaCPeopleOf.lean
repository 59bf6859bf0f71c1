/-
  plumekeep.PeopleOf: what it returns; nothing that was there is written.
-/
import Derived.Test.YtedllchlhdjanaaSeatP
import Derived.Test.YtedllchlhdjanaaCWithin
import Derived.Test.YtedllchlhdjanaaCSumK
import Derived.Test.YtedllchlhdjanaaPush
namespace Go.Proofs.Ytedllchlhdjanaa
open Go.RowKit Fm
set_option linter.unusedVariables false

def peopleK (l : List Int) (k : Nat) : List Int := 1 :: (l.take k).map (fun x => x % 1000)
def peopleOf (l : List Int) : List Int := peopleK l 7
theorem peopleK_len (l : List Int) (k : Nat) : (peopleK l k).length = min k l.length + 1 := by simp [peopleK]
theorem peopleK_succ (l : List Int) {k : Nat} (hk : k < l.length) : peopleK l (k + 1) = peopleK l k ++ [l.getD k 0 % 1000] := by
  unfold peopleK; rw [take_succ_getD l k hk, List.map_append]; rfl
theorem peopleK_bd (l : List Int) (k : Nat) : ∀ x ∈ peopleK l k, 0 ≤ x ∧ x ≤ 999 := fun x hx => by
  unfold peopleK at hx
  rw [List.mem_cons, List.mem_map] at hx
  rcases hx with rfl | ⟨y, _, rfl⟩ <;> omega
theorem peopleOf_ppl (l : List Int) : Ppl (peopleOf l) := by
  have hl := peopleK_len l 7
  refine ⟨by unfold peopleOf; omega, by unfold peopleOf; omega, fun x hx => by have := peopleK_bd l 7 x hx; omega, ?_⟩
  refine sN_pos (fun x hx => (peopleK_bd l 7 x hx).1) (fun h => ?_)
  have := h 1 (by unfold peopleOf peopleK; simp)
  omega

set_option maxHeartbeats 1000000 in
set_option maxRecDepth 100000 in
theorem peopleOf_any (a : Option Addr) (m c : Nat) (l : List Int) (w : World) (hr : Rd w w.heap.size a m l) (hmc : m ≤ c) (hcm : c ≤ maxLen) (hwf : ∀ x ∈ l, Ok64 x) :
    Calls Try.prog 16 #[.slice a m c] w fun e w' => ∃ v, e = .returned v ∧ w'.ownsRow w.heap.size 3 1 v (peopleOf l).length (I (peopleOf l)) ∧ Below w.heap.size w w' := by
  have HR := Lib.hid hr
  have HL := Lib.hid hr.1
  have HW := Lib.hid hwf
  clear hr hwf
  unfold maxLen at hcm
  obtain ⟨H, hH⟩ : ∃ H : Nat, H = min m 7 := ⟨_, rfl⟩
  have hH30 : H ≤ 7 := by omega
  have hHm : H ≤ m := by omega
  have hmin : min (m : Int) 7 = (H : Int) := by omega
  have hmin2 : (if (7 : Int) < (m : Int) then (7 : Int) else (m : Int)) = (H : Int) := by split <;> omega
  have b1 : (0 : Int) ≤ (H : Int) := by omega
  have b2 : (H : Int) ≤ (c : Int) := by omega
  have HPE : Hid (peopleK l H = peopleOf l) := by
    show _ = _
    unfold peopleOf peopleK
    rw [hH]
    have hL := HL.out
    rcases Nat.le_total m 7 with h | h
    · rw [Nat.min_eq_left h, List.take_of_length_le (by omega), List.take_of_length_le (by omega)]
    · rw [Nat.min_eq_right h]
  clear hH
  have own0 := own_lit w 3 [1] #[.int .i64 1] rfl (by unfold maxLen; simp)
  have hb0 : Below w.heap.size w (w.alloc (.cells #[.int .i64 1] 3)) := (Below.refl _ w).alloc (Nat.le_refl _) _
  go_enter Try.func16, Try.ntmps16
  go_wp2_with fail
  clear hmin hmin2
  generalize w.alloc (.cells #[.int .i64 1] 3) = w1 at *
  go_loopw [3, 13] (fun sv iv wr => ∃ k : Nat, k ≤ H ∧ iv = .int .i64 k ∧ wr.ownsRow w.heap.size 3 1 sv (k + 1) (I (peopleK l k)) ∧ Below w.heap.size w wr) (fun _ iv _ => H - (intOf iv).toNat)
  case atStart => exact ⟨0, Nat.zero_le _, rfl, own0, hb0⟩
  case round =>
    obtain ⟨k, hk, rfl, own, hbel⟩ := hrel
    clear own0 hb0
    have hz := hbel.size
    by_cases hlt : k < H
    · obtain ⟨b, o, rfl, hb, hcell⟩ := HR.out.at_ (show k < m by omega)
      have hkl : k < l.length := by rw [HL.out]; omega
      have hck : wr.cell? ⟨b, o + k, none⟩ = some (.int .i64 (l.getD k 0)) := (hbel.cell hb).trans hcell
      have hwx := HW.out _ (getD_mem l k hkl)
      have HS := Lib.hid (peopleK_succ l hkl)
      clear hcell hkl
      generalize l.getD k 0 = x at *
      generalize peopleK l k = q at *
      go_wp2_with fail
      refine (within_any x 1000 wr hwx.1 hwx.2 (by omega) (by omega)).mono ?_
      rintro e w' ⟨rfl, rfl⟩
      generalize x % 1000 = y at *
      go_wp2_with (at_builtin; refine push1 rfl _ _ rfl wr w.heap.size _ (k + 1) q y rfl rfl (by exact own) hz (by omega) ?_)
      intro g4 cap4 w4 own4 gr4 _ _
      have hb4 := hbel.grown gr4 hz (own_not own)
      clear gr4 own hbel hck
      go_wp2
      go_roundw
      case rel => exact ⟨k + 1, by omega, by go_num, by rw [HS.out]; exact own4, hb4⟩
      case measure => simp [intOf]; omega
    · obtain rfl : k = H := by omega
      have hl := own_len own
      rw [HPE.out] at own hl
      rw [← hl] at own
      clear hl
      go_wp2
      go_ret
      exact ⟨_, rfl, own, hbel⟩

end Go.Proofs.Ytedllchlhdjanaa

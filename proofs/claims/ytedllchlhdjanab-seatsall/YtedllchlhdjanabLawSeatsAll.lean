/-
  plumekeep.SeatsAll returns true, for every int and slice of ints, if seats.Share keeps its contract; nothing that was there is written.
-/
import Derived.Test.YtedllchlhdjanabSeatUse
import Derived.Test.YtedllchlhdjanabCWithin
import Derived.Test.YtedllchlhdjanabPush
namespace Go.Proofs.Ytedllchlhdjanab
open Go.RowKit Fm
set_option linter.unusedVariables false

def peopleA (l : List Int) (k : Nat) : List Int := 1 :: (l.take k).map (fun x => x % 14)
theorem peopleA_len (l : List Int) (k : Nat) : (peopleA l k).length = min k l.length + 1 := by simp [peopleA]
theorem peopleA_succ (l : List Int) {k : Nat} (hk : k < l.length) : peopleA l (k + 1) = peopleA l k ++ [l.getD k 0 % 14] := by
  unfold peopleA; rw [take_succ_getD l k hk, List.map_append]; rfl
theorem peopleA_bd (l : List Int) (k : Nat) : ∀ x ∈ peopleA l k, 0 ≤ x ∧ x ≤ 13 := fun x hx => by
  unfold peopleA at hx
  rw [List.mem_cons, List.mem_map] at hx
  rcases hx with rfl | ⟨y, _, rfl⟩ <;> omega
theorem peopleA_ppl (l : List Int) {k : Nat} (hk : k ≤ 7) : Ppl (peopleA l k) := by
  have hl := peopleA_len l k
  refine ⟨by omega, by omega, fun x hx => by have := peopleA_bd l k x hx; omega, ?_⟩
  refine sN_pos (fun x hx => (peopleA_bd l k x hx).1) (fun h => ?_)
  have := h 1 (by unfold peopleA; simp)
  omega
theorem peopleA_sum (l : List Int) {k : Nat} (hk : k ≤ 7) {n : Nat} (hn : (peopleA l k).length = n) : sN (xs (peopleA l k)) n ≤ 100 := by
  have hl := peopleA_len l k
  have e1 : ∀ c m, sN (fun _ => c) m = c * m := fun c m => by
    induction m with
    | zero => rfl
    | succ m ih => rw [sN, ih, Nat.mul_succ]
  -- the first is 1, the others at most 13
  have h : sN (xs (peopleA l k)) n ≤ sN (fun i => if i = 0 then 1 else 13) n := sN_le (fun i hi => by
    have hb := peopleA_bd l k _ (getD_mem _ i (by omega))
    unfold xs
    by_cases e : i = 0
    · subst e; rw [if_pos rfl]; unfold peopleA; simp
    · rw [if_neg e]; omega)
  have h8 : n ≤ 8 := by omega
  have h9 : ∀ m, m ≤ 8 → sN (fun i => if i = 0 then 1 else 13) m ≤ 13 * m - (if m = 0 then 0 else 12) := fun m hm => by
    induction m with
    | zero => simp [sN]
    | succ m ih =>
      have := ih (by omega)
      rw [sN]
      by_cases e : m = 0
      · subst e; simp [sN]
      · rw [if_neg e] at this ⊢
        rw [if_neg (by omega)]
        omega
  have := h9 n h8
  rw [if_neg (by omega)] at this
  omega
theorem all_same {way : Int} (h1 : 1 ≤ way) (h3 : way ≤ 3) {P : List Int} (p : Ppl P) {n : Nat} (hn : P.length = n) : sharesL way P (sN (xs P) n) = P := by
  subst hn
  refine shares_is p (fun i hi => ?_)
  unfold shareN
  by_cases e : way = 3
  · rw [if_pos e]; exact partS_all p.pos p.some_
  · rw [if_neg e]; exact seatT_all p.pos (by omega) i hi

set_option maxHeartbeats 4000000 in
set_option maxRecDepth 100000 in
theorem seatsAll_is (sS : SShare) (w0 : Int) (hw0 : -9223372036854775808 ≤ w0) (hw1 : w0 ≤ 9223372036854775807) (v1 : Value) (l : List Int) {w : World} (f1 : IsInts w v1 l) :
    Calls Try.prog 3 #[.int .i64 w0, v1] w fun e w' => e = .returned (.bool true) ∧ Below w.heap.size w w' := by
  obtain ⟨a, c, rfl, hr, hox, hlc, _, hcm, _⟩ := f1
  have HR := Lib.hid hr
  have HO := Lib.hid hox
  have W0 : Hid (∀ W, Calls Try.prog 4 #[] W fun e w' => e = .returned (.bool true) ∧ Below W.heap.size W w') := fun W => shares_any sS W
  have SS : Hid SShare := sS
  clear sS hr hox
  unfold maxLen at hcm
  go_enter Try.func3, Try.ntmps3
  go_wp2_with fail
  refine (W0.out w).mono ?_
  rintro e w1 ⟨rfl, hb1⟩
  clear W0
  go_wp2_with fail
  refine (within_any w0 3 w1 hw0 hw1 (by omega) (by omega)).mono ?_
  rintro e w1' ⟨rfl, rfl⟩
  obtain ⟨d, hd⟩ : ∃ d : Int, w0 % 3 = d := ⟨_, rfl⟩
  have hd0 : 0 ≤ d ∧ d ≤ 2 := by omega
  rw [hd]
  clear hd hw0 hw1
  obtain ⟨way, hway⟩ : ∃ way : Int, 1 + d = way := ⟨_, rfl⟩
  have hw1 : 1 ≤ way := by omega
  have hw3 : way ≤ 3 := by omega
  obtain ⟨m, hm⟩ : ∃ m, l.length = m := ⟨_, rfl⟩
  have HM := Lib.hid hm
  rw [hm] at HR hlc ⊢
  obtain ⟨H, hH⟩ : ∃ H : Nat, H = min m 7 := ⟨_, rfl⟩
  have hH7 : H ≤ 7 := by omega
  have hHm : H ≤ m := by omega
  have hmin : min (m : Int) 7 = (H : Int) := by omega
  have hmin2 : (if (7 : Int) < (m : Int) then (7 : Int) else (m : Int)) = (H : Int) := by split <;> omega
  have b1 : (0 : Int) ≤ (H : Int) := by omega
  have b2 : (H : Int) ≤ (c : Int) := by omega
  have own0 := own_lit w1 3 [1] #[.int .i64 1] rfl (by unfold maxLen; simp)
  have hb0 : Below w1.heap.size w1 (w1.alloc (.cells #[.int .i64 1] 3)) := (Below.refl _ w1).alloc (Nat.le_refl _) _
  have RA := Lib.hid (rd_ext HR.out hb1)
  have HB1 := Lib.hid hb1
  clear hH hm hb1 HR
  go_wp2_with fail
  clear hmin hmin2 hway
  generalize w1.alloc (.cells #[.int .i64 1] 3) = w2 at *
  go_loopw [5, 22] (fun sv iv wr => ∃ k : Nat, k ≤ H ∧ iv = .int .i64 k ∧ wr.ownsRow w1.heap.size 3 1 sv (k + 1) (I (peopleA l k)) ∧ Below w1.heap.size w1 wr) (fun _ iv _ => H - (intOf iv).toNat)
  case atStart => exact ⟨0, Nat.zero_le _, rfl, own0, hb0⟩
  case round =>
    obtain ⟨k, hk, rfl, own, hbel⟩ := hrel
    clear own0 hb0
    have hz := hbel.size
    by_cases hlt : k < H
    · obtain ⟨b, o, rfl, hb, hcell⟩ := RA.out.at_ (show k < m by omega)
      have hkl : k < l.length := by rw [HM.out]; omega
      have hck : wr.cell? ⟨b, o + k, none⟩ = some (.int .i64 (l.getD k 0)) := (hbel.cell hb).trans hcell
      have hwx := HO.out _ (getD_mem l k hkl)
      have HS := Lib.hid (peopleA_succ l hkl)
      clear hcell hkl
      generalize l.getD k 0 = x at *
      generalize peopleA l k = q at *
      go_wp2_with fail
      refine (within_any x 14 wr hwx.1 hwx.2 (by omega) (by omega)).mono ?_
      rintro e w' ⟨rfl, rfl⟩
      generalize x % 14 = y at *
      go_wp2_with (at_builtin; refine push1 rfl _ _ rfl wr w1.heap.size _ (k + 1) q y rfl rfl (by exact own) hz (by omega) ?_)
      intro g4 cap4 w4 own4 gr4 _ _
      have hb4 := hbel.grown gr4 hz (own_not own)
      clear gr4 own hbel hck
      go_wp2
      go_roundw
      case rel => exact ⟨k + 1, by omega, by go_num, by rw [HS.out]; exact own4, hb4⟩
      case measure => simp [intOf]; omega
    · obtain rfl : k = H := by omega
      have HP := Lib.hid (peopleA_ppl l hH7)
      have HPL := Lib.hid (own_len own)
      have hsum := peopleA_sum l hH7 HPL.out
      have HALL := Lib.hid (all_same hw1 hw3 HP.out HPL.out)
      generalize peopleA l k = P at *
      obtain ⟨g5, c5, rfl, _, _, hc5, _, _⟩ := own_form own (by omega)
      have RP := Lib.hid (Rd.of_own own)
      have HB5 := Lib.hid (ext_trans HB1.out hbel)
      have QN := Lib.hid (pplsum_use HP.out HPL.out (some ⟨g5, 0, none⟩) c5 wr RP.out)
      have QS := Lib.hid (share_use SS.out HP.out HPL.out hw1 hw3 hsum (some ⟨g5, 0, none⟩) c5 hc5 wr RP.out)
      rw [HALL.out] at QS
      clear own hbel RA HO HM HB1 SS HALL
      generalize sN (xs P) (k + 1) = S at *
      go_wp2_with fail
      refine QN.out.mono ?_
      rintro e w6 ⟨rfl, rfl⟩
      go_wp2_with fail
      refine QS.out.mono ?_
      rintro e w7 ⟨a7, c7, rfl, r7, hb7⟩
      have QE := Lib.hid (equal_ext P P a7 (some ⟨g5, 0, none⟩) (k + 1) c7 (k + 1) c5 w7 r7 (rd_ext RP.out hb7) (by omega) (by omega))
      rw [show decide (P = P) = true from decide_eq_true rfl] at QE
      have hb07 := ext_trans HB5.out hb7
      clear QN QS RP r7 hb7
      go_wp2_with fail
      refine QE.out.mono ?_
      rintro e w8 ⟨rfl, hb8⟩
      have hb08 := ext_trans hb07 hb8
      clear QE hb07 hb8
      go_wp2
      go_ret
      exact ⟨rfl, hb08⟩
end Go.Proofs.Ytedllchlhdjanab

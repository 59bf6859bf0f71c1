/-
  Package seats: byQuotients, in a row of its own; nothing that was there is written.
-/
import Derived.Test.YtedllchlhdjanaaCSPick
import Derived.Test.YtedllchlhdjanaaPush
namespace Go.Proofs.Ytedllchlhdjanaa
open Go.RowKit Fm
set_option linter.unusedVariables false

def natL (n : Nat) (f : Nat → Nat) : List Int := fnL n (fun i => (f i.toNat : Int))
theorem natL_len (n : Nat) (f : Nat → Nat) : (natL n f).length = n := fnL_len n _
theorem natL_at (n : Nat) (f : Nat → Nat) {i : Nat} (hi : i < n) : (natL n f).getD i 0 = (f i : Int) := by unfold natL; rw [fnL_at n _ hi]; simp
theorem natL_set (n : Nat) (f g : Nat → Nat) {j : Nat} (hj : j < n) {z : Int} (hz : z = (g j : Int)) (he : ∀ i, i < n → i ≠ j → f i = g i) : (natL n f).set j z = natL n g := by
  unfold natL
  rw [fnL_set n _ hj]
  refine fnL_congr n (fun i hi => ?_)
  by_cases e : (i : Int) = (j : Int)
  · have : i = j := by omega
    subst this
    simp [hz]
  · rw [if_neg e]
    simp [he i hi (by omega)]
theorem natL_zero (n : Nat) : List.replicate n (0 : Int) = natL n (fun _ => 0) := zeroL n

set_option maxHeartbeats 1000000 in
set_option maxRecDepth 100000 in
theorem byQ_any {P : List Int} (p : Ppl P) {n : Nat} (hn : P.length = n) (st : Nat) (hst : st ≤ 2) (h : Nat) (hh : h ≤ 100) (a : Option Addr) (c : Nat) (w : World) (hr : Rd w w.heap.size a n P) :
    Calls Try.prog 19 #[.slice a n c, .int .i64 h, .int .i64 st] w fun e w' => ∃ v, e = .returned v ∧ w'.ownsRow w.heap.size 3 1 v n (I (natL n (seatT st n (xs P) h))) ∧ Below w.heap.size w w' := by
  have h1 := p.pos
  have h8 := p.le
  rw [hn] at h1 h8
  have HX : Hid (∀ i, i < n → P.getD i 0 = (xs P i : Int) ∧ xs P i ≤ 1000000) := fun i hi => p.at_ (by rw [hn]; exact hi)
  have hmk : ∀ W : World, (Instr.makeSlice 22 (.int .i64 n) (.int .i64 n)).run Try.prog W = .ok (.slice (some ⟨W.heap.size, 0, none⟩) n n) (W.alloc (.cells (zeros n) 3)) := make_ints n (by omega)
  obtain ⟨B, hB⟩ : ∃ B, B = w.heap.size := ⟨_, rfl⟩
  have own0 := own_lit w 3 (List.replicate n 0) (zeros n) rfl (by unfold maxLen; simp; omega)
  rw [List.length_replicate] at own0
  have own1 := own_mono own0 (Nat.le_of_eq hB)
  have hb0 : Below B w (w.alloc (.cells (zeros n) 3)) := by rw [hB]; exact (Below.refl _ w).alloc (Nat.le_refl _) _
  have hs0 : B ≤ (w.alloc (.cells (zeros n) 3)).heap.size := by rw [hB]; exact Nat.le_of_lt (by simp)
  have e0 : List.replicate n (0 : Int) = natL n (seatT st n (xs P) 0) := natL_zero n
  rw [e0] at own1
  clear e0 own0
  rw [← hB] at hr ⊢
  clear hB
  have HR := Lib.hid hr
  have HPK : Hid (∀ t, pickTo (xs P) (fun i => st * seatT st n (xs P) t i + 1) (n - 1) < n) := fun t => (seatT_pick h1 t).1
  have HLE : Hid (∀ t, t ≤ h → ∀ i, i < n → seatT st n (xs P) t i ≤ 100) := fun t ht i hi => by
    have := sN_mem (f := seatT st n (xs P) t) hi
    rw [seatT_sum h1] at this
    omega
  have HST : Hid (∀ t, (natL n (seatT st n (xs P) t)).set (pickTo (xs P) (fun i => st * seatT st n (xs P) t i + 1) (n - 1)) ((seatT st n (xs P) t (pickTo (xs P) (fun i => st * seatT st n (xs P) t i + 1) (n - 1)) : Int) + 1) = natL n (seatT st n (xs P) (t + 1))) := fun t => by
    refine natL_set n _ _ (seatT_pick h1 t).1 ?_ ?_
    · rw [seatT]; unfold up1; rw [if_pos rfl]; simp
    · intro i hi hne
      rw [seatT]; unfold up1; rw [if_neg hne]
  have QG : Hid (∀ t, t ≤ h → ∀ g W, Rd W W.heap.size a n P → Rd W W.heap.size (some ⟨g, 0, none⟩) n (natL n (seatT st n (xs P) t)) → Calls Try.prog 30 #[.slice a n c, .slice (some ⟨g, 0, none⟩) n n, .int .i64 st] W fun e w' => e = .returned (.int .i64 (pickTo (xs P) (fun i => st * seatT st n (xs P) t i + 1) (n - 1) : Nat)) ∧ ∃ k, w' = W.drewN k) := fun t ht g W q1 q2 =>
    grQ_any h1 h8 (xs P) (seatT st n (xs P) t) P (natL n (seatT st n (xs P) t)) st hst HX.out (fun i hi => ⟨natL_at n _ hi, HLE.out t ht i hi⟩) a _ c n W W.heap.size q1 q2
  clear hr p hn HX
  generalize seatT st n (xs P) = S at *
  go_enter Try.func19, Try.ntmps19
  go_wp2_with fail
  clear hmk
  generalize w.alloc (.cells (zeros n) 3) = w2 at *
  generalize w.heap.size = g at *
  go_loopw [12] (fun iv wr => ∃ t : Nat, t ≤ h ∧ iv = .int .i64 t ∧ wr.ownsRow B 3 1 (.slice (some ⟨g, 0, none⟩) n n) n (I (natL n (S t))) ∧ Below B w wr ∧ B ≤ wr.heap.size) (fun iv _ => h - (intOf iv).toNat)
  case atStart => exact ⟨0, Nat.zero_le _, rfl, own1, hb0, hs0⟩
  case round =>
    obtain ⟨t, ht, rfl, own, hbel, hz⟩ := hrel
    clear own1 hb0 hs0
    by_cases hth : t < h
    · have Q := Lib.hid (QG.out t ht g wr ((HR.out.below hbel (Nat.le_refl _)).more hz) (Rd.of_own own))
      have hpk := HPK.out t
      have hst2 := HST.out t
      have hle := HLE.out t ht
      generalize pickTo (xs P) (fun i => st * S t i + 1) (n - 1) = b at *
      have hleb := hle b hpk
      have ck := own_cell own b hpk
      rw [natL_at n _ hpk] at ck
      have fk := own.frozenAt b
      obtain ⟨s1, g1⟩ := own.stored b (.int .i64 ((S t b : Int) + 1))
      have es : (I (natL n (S t))).set b (.int .i64 ((S t b : Int) + 1)) = I (natL n (S (t + 1))) := by
        rw [← hst2]; unfold I; rw [List.map_set]
      rw [es] at s1
      have hb5 := hbel.grown g1 hz (fun z hz2 => by injection hz2 with hz2; have := (own.lt g rfl).1; omega)
      have hz5 := Nat.le_trans hz g1.size
      clear es g1 hst2 hle
      generalize S t b = sb at *
      go_wp2_with fail
      refine Q.out.mono ?_
      rintro e w' ⟨rfl, k, rfl⟩
      clear Q own hbel
      go_wp2
      go_roundw
      case rel => exact ⟨t + 1, by omega, by go_num, own_drewN s1 _, below_drewN hb5 _, hz5⟩
      case measure => simp [intOf]; omega
    · obtain rfl : t = h := by omega
      go_wp2
      go_ret
      exact ⟨_, rfl, own, hbel⟩
end Go.Proofs.Ytedllchlhdjanaa

/-
  saddle.lows at a right table: the least of each row, in a row of the call's own; nothing that was there is written.
-/
import Derived.Test.YtimjepakdldacaaPayP
import Derived.Test.YtimjepakdldacaaCMinMax
import Derived.Test.YtimjepakdldacaaSqPay
namespace Go.Proofs.Ytimjepakdldacaa
open Go.RowKit Fm
set_option linter.unusedVariables false

/-- The least entries of the first x rows. -/
def lowL (M : List (List Int)) (n x : Nat) : List Int := fnL n (fun j => if j.toNat < x then rmin M j.toNat else 0)
theorem lowL_len (M : List (List Int)) (n x : Nat) : (lowL M n x).length = n := fnL_len n _
theorem lowL_zero (M : List (List Int)) (n : Nat) : List.replicate n 0 = lowL M n 0 := by
  rw [zeroL]
  exact fnL_congr n (fun j hj => by rw [if_neg (by omega)])
theorem lowL_set (M : List (List Int)) {n x : Nat} (hx : x < n) : (lowL M n x).set x (rmin M x) = lowL M n (x + 1) := by
  unfold lowL
  rw [fnL_set n _ hx]
  refine fnL_congr n (fun j hj => ?_)
  rw [Int.toNat_natCast]
  by_cases e : j = x
  · subst e; rw [if_pos rfl, if_pos (by omega)]
  · rw [if_neg (by omega)]
    by_cases h : j < x
    · rw [if_pos h, if_pos (by omega)]
    · rw [if_neg h, if_neg (by omega)]
theorem lowL_at (M : List (List Int)) {n j : Nat} (h : j < n) : (lowL M n n).getD j 0 = rmin M j := by
  unfold lowL
  rw [fnL_at n _ h, Int.toNat_natCast, if_pos h]
theorem lowL_end {r k : Nat} {M : List (List Int)} (p : Pay r k M) : lowL M r r = M.map leastI := by
  apply List.ext_getElem
  · rw [lowL_len, List.length_map, p.len]
  · intro j h1 h2
    have hj : j < r := by rw [lowL_len] at h1; exact h1
    rw [← getD_get h1, lowL_at M hj, List.getElem_map]
    unfold rmin
    rw [List.getD_eq_getElem?_getD, List.getElem?_eq_getElem (by rw [p.len]; exact hj)]
    rfl

set_option maxHeartbeats 1000000 in
set_option maxRecDepth 100000 in
theorem lows_own {r k : Nat} {M : List (List Int)} (p : Pay r k M) (a : Option Addr) (n c : Nat) (w : World) (hr : RdR w w.heap.size a n M) :
    Calls Try.prog 39 #[.slice a n c] w fun e w' => ∃ v, e = .returned v ∧ w'.ownsRow w.heap.size 3 1 v r (I (lowL M r r)) ∧ Below w.heap.size w w' := by
  have hn : n = r := by rw [← hr.1, p.len]
  subst hn
  have HP := Lib.hid p
  have r1 := p.r1
  have r6 := p.r6
  have k1 := p.k1
  have k6 := p.k6
  have HR := Lib.hid hr
  have hmk : ∀ W : World, (Instr.makeSlice 27 (.int .i64 n) (.int .i64 n)).run Try.prog W = .ok (.slice (some ⟨W.heap.size, 0, none⟩) n n) (W.alloc (.cells (zeros n) 3)) := make_ints n (by omega)
  have own0 := own_lit w 3 (List.replicate n 0) (zeros n) rfl (by unfold maxLen; simp; omega)
  rw [List.length_replicate, lowL_zero M n] at own0
  have hb0 : Below w.heap.size w (w.alloc (.cells (zeros n) 3)) := (Below.refl _ w).alloc (Nat.le_refl _) _
  clear hr p
  go_enter Try.func39, Try.ntmps39
  go_wp2_with fail
  clear hmk
  generalize w.alloc (.cells (zeros n) 3) = w2 at *
  obtain ⟨g, hg⟩ : ∃ g, w.heap.size = g := ⟨_, rfl⟩
  have hgl : w.heap.size ≤ g := by omega
  have own1 : w2.ownsRow w.heap.size 3 1 (.slice (some ⟨g, 0, none⟩) n n) n (I (lowL M n 0)) := by rw [hg] at own0 ⊢; exact own0
  rw [show Value.slice (some ⟨w.heap.size, 0, none⟩) n n = Value.slice (some ⟨g, 0, none⟩) n n by rw [hg]]
  clear own0 hg
  go_loopw [11] (fun xv wr => ∃ x : Nat, x ≤ n ∧ xv = .int .i64 x ∧ wr.ownsRow w.heap.size 3 1 (.slice (some ⟨g, 0, none⟩) n n) n (I (lowL M n x)) ∧ Below w.heap.size w wr) (fun xv _ => n - (intOf xv).toNat)
  case atStart => exact ⟨0, Nat.zero_le _, rfl, own1, hb0⟩
  case round =>
    obtain ⟨x, hx, rfl, hown, hbel⟩ := hrel
    clear own1 hb0
    have hz := hbel.size
    by_cases hxn : x < n
    · obtain ⟨b', o', a', c', hba, hb2, hcell, hl1, _, _, hrd⟩ := HR.out.at_ hxn
      subst hba
      have hrl := HP.out.row hxn
      rw [hrl] at hcell hrd hl1
      have q1 : wr.cell? ⟨b', o' + x, none⟩ = some (.slice a' k c') := (hbel.cell (by show b' < _; omega)).trans hcell
      have QM := Lib.hid (minI_any (M.getD x []) a' k c' wr wr.heap.size (by omega) (rd_ext hrd hbel) (by omega))
      have hrm : leastI (M.getD x []) = rmin M x := rfl
      rw [hrm] at QM
      have ck := own_cell hown x hxn
      have fk := hown.frozenAt x
      obtain ⟨s1, g1⟩ := hown.stored x (.int .i64 (rmin M x))
      have es : (I (lowL M n x)).set x (.int .i64 (rmin M x)) = I (lowL M n (x + 1)) := by
        rw [← lowL_set M hxn]; unfold I; rw [List.map_set]
      rw [es] at s1
      have hb5 := hbel.grown g1 hz (fun y hy => by injection hy with hy; have := (hown.lt g rfl).1; omega)
      clear es g1 hown hbel hcell hrd hrm
      generalize rmin M x = z at *
      go_wp2_with fail
      refine QM.out.mono ?_
      rintro e w' ⟨rfl, rfl⟩
      clear QM
      go_wp2
      go_roundw
      case rel => exact ⟨x + 1, by omega, by go_num, s1, hb5⟩
      case measure => simp [intOf]; omega
    · obtain rfl : x = n := by omega
      go_wp2
      go_ret
      exact ⟨_, rfl, hown, hbel⟩
end Go.Proofs.Ytimjepakdldacaa

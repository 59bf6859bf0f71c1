/-
  saddle.highs at a right table: the greatest of each column, in a row of the call's own; nothing that was there is written.
-/
import Derived.Test.YtimjepakdldacaaPayP
import Derived.Test.YtimjepakdldacaaCClone
import Derived.Test.YtimjepakdldacaaSqPay
namespace Go.Proofs.Ytimjepakdldacaa
open Go.RowKit Fm
set_option linter.unusedVariables false

/-- The greatest of the first x entries of column j, its first one always. -/
def hmx (M : List (List Int)) (j : Nat) : Nat → Int
  | 0 => ent M 0 j
  | x + 1 => max (hmx M j x) (ent M x j)
theorem hmx_at {r k : Nat} {M : List (List Int)} (p : Pay r k M) (j : Nat) : ∀ x, x ≤ r → ∃ x', x' < r ∧ hmx M j x = ent M x' j
  | 0, _ => ⟨0, p.r1, rfl⟩
  | x + 1, h => by
    obtain ⟨x', h1, h2⟩ := hmx_at p j x (by omega)
    by_cases q : ent M x j ≤ hmx M j x
    · exact ⟨x', h1, by rw [hmx, ← h2]; omega⟩
    · exact ⟨x, by omega, by rw [hmx]; omega⟩
theorem hmx_ge {M : List (List Int)} (j : Nat) : ∀ x x', x' < x → ent M x' j ≤ hmx M j x := by
  intro x
  induction x with
  | zero => intro x' h; omega
  | succ x ih =>
    intro x' h
    rw [hmx]
    by_cases e : x' = x
    · subst e; omega
    · have := ih x' (by omega); omega
theorem hmx_end {r k : Nat} {M : List (List Int)} (p : Pay r k M) (j : Nat) : hmx M j r = cmax M j := by
  obtain ⟨x', h1, h2⟩ := hmx_at p j r (Nat.le_refl _)
  obtain ⟨x, h3, h4⟩ := cmax_at p j
  have := cmax_ge p j h1
  have := hmx_ge (M := M) j r x h3
  omega
/-- The greatest entries over the first x rows, in the first y columns also over the row x. -/
def highL (M : List (List Int)) (k x y : Nat) : List Int := fnL k (fun j => hmx M j.toNat (if j.toNat < y then x + 1 else x))
theorem highL_len (M : List (List Int)) (k x y : Nat) : (highL M k x y).length = k := fnL_len k _
theorem highL_zero {r k : Nat} {M : List (List Int)} (p : Pay r k M) : M.getD 0 [] = highL M k 0 0 := by
  have h0 := p.row p.r1
  apply List.ext_getElem
  · rw [highL_len, h0]
  · intro j h1 h2
    have hj : j < k := by rw [highL_len] at h2; exact h2
    rw [← getD_get h1, ← getD_get h2]
    unfold highL
    rw [fnL_at k _ hj, Int.toNat_natCast, if_neg (by omega)]
    rfl
theorem highL_at (M : List (List Int)) {k y : Nat} (x : Nat) (hy : y < k) : (highL M k x y).getD y 0 = hmx M y x := by
  unfold highL
  rw [fnL_at k _ hy, Int.toNat_natCast, if_neg (by omega)]
theorem highL_set (M : List (List Int)) {k y : Nat} (x : Nat) (hy : y < k) : (highL M k x y).set y (max (hmx M y x) (ent M x y)) = highL M k x (y + 1) := by
  unfold highL
  rw [fnL_set k _ hy]
  refine fnL_congr k (fun j hj => ?_)
  rw [Int.toNat_natCast]
  by_cases e : j = y
  · subst e; rw [if_pos rfl, if_pos (by omega)]; rfl
  · rw [if_neg (by omega)]
    by_cases h : j < y
    · rw [if_pos h, if_pos (by omega)]
    · rw [if_neg h, if_neg (by omega)]
theorem highL_next (M : List (List Int)) (k x : Nat) : highL M k x k = highL M k (x + 1) 0 := by
  unfold highL
  exact fnL_congr k (fun j hj => by rw [Int.toNat_natCast, if_pos hj, if_neg (by omega)])
theorem highL_fin {r k : Nat} {M : List (List Int)} (p : Pay r k M) {j : Nat} (h : j < k) : (highL M k r 0).getD j 0 = cmax M j := by
  unfold highL
  rw [fnL_at k _ h, Int.toNat_natCast, if_neg (by omega), hmx_end p]
theorem highL_end {r k : Nat} {M : List (List Int)} (p : Pay r k M) : highL M k r 0 = (colsM k M).map most := by
  apply List.ext_getElem
  · rw [highL_len, List.length_map, colsM_len]
  · intro j h1 h2
    have hj : j < k := by rw [highL_len] at h1; exact h1
    rw [← getD_get h1, highL_fin p hj, List.getElem_map]
    unfold cmax
    rw [← colsM_at hj, List.getD_eq_getElem?_getD, List.getElem?_eq_getElem (by rw [colsM_len]; exact hj)]
    rfl

set_option maxHeartbeats 2000000 in
set_option maxRecDepth 100000 in
theorem highs_own {r k : Nat} {M : List (List Int)} (p : Pay r k M) (a : Option Addr) (n c : Nat) (w : World) (hr : RdR w w.heap.size a n M) :
    Calls Try.prog 40 #[.slice a n c] w fun e w' => ∃ v, e = .returned v ∧ w'.ownsRow w.heap.size 3 1 v k (I (highL M k r 0)) ∧ Below w.heap.size w w' := by
  have hn : n = r := by rw [← hr.1, p.len]
  subst hn
  have HP := Lib.hid p
  have r1 := p.r1
  have r6 := p.r6
  have k1 := p.k1
  have k6 := p.k6
  have HR := Lib.hid hr
  obtain ⟨b, o, a0, c0, rfl, hbw, hc0, hl0, _, _, hrd0⟩ := hr.at_ (show 0 < n by omega)
  rw [p.row p.r1] at hc0 hl0 hrd0
  rw [highL_zero p] at hrd0
  rw [Nat.add_zero] at hc0
  have hn0 : (0 : Int) < (n : Int) := by omega
  have QC := Lib.hid (clone_any (highL M k 0 0) a0 k c0 w w.heap.size hrd0 (by omega))
  clear hr p hrd0
  go_enter Try.func40, Try.ntmps40
  go_wp2_with fail
  refine QC.out.mono ?_
  rintro e w1 ⟨v, rfl, own0, hb0⟩
  clear QC
  obtain ⟨g, cap, rfl, hg1, hg2, hcap, hcm, _⟩ := own_form own0 (by omega)
  unfold maxLen at hcm
  go_wp2_with fail
  go_loopw [14] (fun xv wr => ∃ x : Nat, x ≤ n ∧ xv = .int .i64 x ∧ wr.ownsRow w.heap.size 3 1 (.slice (some ⟨g, 0, none⟩) k cap) k (I (highL M k x 0)) ∧ Below w.heap.size w wr) (fun xv _ => n - (intOf xv).toNat)
  case atStart => exact ⟨0, Nat.zero_le _, rfl, own0, hb0⟩
  case round =>
    obtain ⟨x, hx, rfl, own1, hb1⟩ := hrel
    clear own0 hb0
    by_cases hxn : x < n
    · obtain ⟨b', o', a', c', hba, hb2, hcell, hl1, _, _, hrd⟩ := HR.out.at_ hxn
      injection hba with hba
      injection hba with e1 e2
      subst e1; subst e2
      have hrl := HP.out.row hxn
      rw [hrl] at hcell hrd hl1
      have q1 : wr.cell? ⟨b, o + x, none⟩ = some (.slice a' k c') := (hb1.cell (by show b < _; omega)).trans hcell
      have HRD : Hid (Rd w w.heap.size a' k (M.getD x [])) := hrd
      clear hcell hrd
      obtain ⟨wo, rfl⟩ : ∃ wo, wo = wr := ⟨_, rfl⟩
      go_wp2_with fail
      go_loopw [20] (fun yv wr => ∃ y : Nat, y ≤ k ∧ yv = .int .i64 y ∧ wr.ownsRow w.heap.size 3 1 (.slice (some ⟨g, 0, none⟩) k cap) k (I (highL M k x y)) ∧ Below w.heap.size w wr) (fun yv _ => k - (intOf yv).toNat)
      case atStart => exact ⟨0, Nat.zero_le _, rfl, own1, hb1⟩
      case round =>
        obtain ⟨y, hy, rfl, hown, hbel⟩ := hrel
        clear own1 hb1
        have hz := hbel.size
        by_cases hyk : y < k
        · obtain ⟨bx, ox, rfl, hbx, hcx⟩ := HRD.out.at_ hyk
          have q2 : wr.cell? ⟨bx, ox + y, none⟩ = some (.int .i64 (ent M x y)) := (hbel.cell (by exact hbx)).trans hcx
          have ck := own_cell hown y hyk
          have fk := hown.frozenAt y
          rw [highL_at M x hyk] at ck
          obtain ⟨s1, g1⟩ := hown.stored y (.int .i64 (max (hmx M y x) (ent M x y)))
          have es : (I (highL M k x y)).set y (.int .i64 (max (hmx M y x) (ent M x y))) = I (highL M k x (y + 1)) := by
            rw [← highL_set M x hyk]; unfold I; rw [List.map_set]
          rw [es] at s1
          have hb5 := hbel.grown g1 hz (fun y hy => by injection hy with hy; have := (hown.lt g rfl).1; omega)
          clear es g1 hown hbel hcx
          generalize hmx M y x = z1 at *
          generalize ent M x y = z2 at *
          go_wp2
          go_roundw
          case rel => exact ⟨y + 1, by omega, by go_num, s1, hb5⟩
          case measure => simp [intOf]; omega
        · obtain rfl : y = k := by omega
          rw [highL_next] at hown
          go_wp2
          go_roundw
          case rel => exact ⟨x + 1, by omega, by go_num, hown, hbel⟩
          case measure => simp [intOf]; omega
    · obtain rfl : x = n := by omega
      go_wp2
      go_ret
      exact ⟨_, rfl, own1, hb1⟩
end Go.Proofs.Ytimjepakdldacaa

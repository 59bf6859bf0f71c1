/-
  equil.highs at a right table: the greatest of each column, in a row of the call's own; nothing that was there is written.
-/
import Derived.Test.YtimjepakdldacaaCSaHigh
namespace Go.Proofs.Ytimjepakdldacaa
open Go.RowKit Fm
set_option linter.unusedVariables false

set_option maxHeartbeats 2000000 in
set_option maxRecDepth 100000 in
theorem eqHighs_own {r k : Nat} {M : List (List Int)} (p : Pay r k M) (a : Option Addr) (n c : Nat) (w : World) (hr : RdR w w.heap.size a n M) :
    Calls Try.prog 26 #[.slice a n c] w fun e w' => ∃ v, e = .returned v ∧ w'.ownsRow w.heap.size 3 1 v k (I (highL M k r 0)) ∧ Below w.heap.size w w' := by
  have hn : n = r := by rw [← hr.1, p.len]
  subst hn
  have HP := Lib.hid p
  have r1 := p.r1
  have r6 := p.r6
  have k1 := p.k1
  have k6 := p.k6
  have HR := Lib.hid hr
  obtain ⟨b, o, a0, c0, rfl, hbw, hc0, hl0, _, _, hrd0⟩ := hr.at_ (show 0 < n by omega)
  rw [p.row p.r1] at hc0 hl0 hrd0
  rw [highL_zero p] at hrd0
  rw [Nat.add_zero] at hc0
  have hn0 : (0 : Int) < (n : Int) := by omega
  have QC := Lib.hid (clone_any (highL M k 0 0) a0 k c0 w w.heap.size hrd0 (by omega))
  clear hr p hrd0
  go_enter Try.func26, Try.ntmps26
  go_wp2_with fail
  refine QC.out.mono ?_
  rintro e w1 ⟨v, rfl, own0, hb0⟩
  clear QC
  obtain ⟨g, cap, rfl, hg1, hg2, hcap, hcm, _⟩ := own_form own0 (by omega)
  unfold maxLen at hcm
  go_wp2_with fail
  go_loopw [14] (fun xv wr => ∃ x : Nat, x ≤ n ∧ xv = .int .i64 x ∧ wr.ownsRow w.heap.size 3 1 (.slice (some ⟨g, 0, none⟩) k cap) k (I (highL M k x 0)) ∧ Below w.heap.size w wr) (fun xv _ => n - (intOf xv).toNat)
  case atStart => exact ⟨0, Nat.zero_le _, rfl, own0, hb0⟩
  case round =>
    obtain ⟨x, hx, rfl, own1, hb1⟩ := hrel
    clear own0 hb0
    by_cases hxn : x < n
    · obtain ⟨b', o', a', c', hba, hb2, hcell, hl1, _, _, hrd⟩ := HR.out.at_ hxn
      injection hba with hba
      injection hba with e1 e2
      subst e1; subst e2
      have hrl := HP.out.row hxn
      rw [hrl] at hcell hrd hl1
      have q1 : wr.cell? ⟨b, o + x, none⟩ = some (.slice a' k c') := (hb1.cell (by show b < _; omega)).trans hcell
      have HRD : Hid (Rd w w.heap.size a' k (M.getD x [])) := hrd
      clear hcell hrd
      obtain ⟨wo, rfl⟩ : ∃ wo, wo = wr := ⟨_, rfl⟩
      go_wp2_with fail
      go_loopw [20] (fun yv wr => ∃ y : Nat, y ≤ k ∧ yv = .int .i64 y ∧ wr.ownsRow w.heap.size 3 1 (.slice (some ⟨g, 0, none⟩) k cap) k (I (highL M k x y)) ∧ Below w.heap.size w wr) (fun yv _ => k - (intOf yv).toNat)
      case atStart => exact ⟨0, Nat.zero_le _, rfl, own1, hb1⟩
      case round =>
        obtain ⟨y, hy, rfl, hown, hbel⟩ := hrel
        clear own1 hb1
        have hz := hbel.size
        by_cases hyk : y < k
        · obtain ⟨bx, ox, rfl, hbx, hcx⟩ := HRD.out.at_ hyk
          have q2 : wr.cell? ⟨bx, ox + y, none⟩ = some (.int .i64 (ent M x y)) := (hbel.cell (by exact hbx)).trans hcx
          have ck := own_cell hown y hyk
          have fk := hown.frozenAt y
          rw [highL_at M x hyk] at ck
          obtain ⟨s1, g1⟩ := hown.stored y (.int .i64 (max (hmx M y x) (ent M x y)))
          have es : (I (highL M k x y)).set y (.int .i64 (max (hmx M y x) (ent M x y))) = I (highL M k x (y + 1)) := by
            rw [← highL_set M x hyk]; unfold I; rw [List.map_set]
          rw [es] at s1
          have hb5 := hbel.grown g1 hz (fun y hy => by injection hy with hy; have := (hown.lt g rfl).1; omega)
          clear es g1 hown hbel hcx
          generalize hmx M y x = z1 at *
          generalize ent M x y = z2 at *
          go_wp2
          go_roundw
          case rel => exact ⟨y + 1, by omega, by go_num, s1, hb5⟩
          case measure => simp [intOf]; omega
        · obtain rfl : y = k := by omega
          rw [highL_next] at hown
          go_wp2
          go_roundw
          case rel => exact ⟨x + 1, by omega, by go_num, hown, hbel⟩
          case measure => simp [intOf]; omega
    · obtain rfl : x = n := by omega
      go_wp2
      go_ret
      exact ⟨_, rfl, own1, hb1⟩
end Go.Proofs.Ytimjepakdldacaa

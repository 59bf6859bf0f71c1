/-
  duel.Worst: at right tables it returns the greatest defeats, otherwise the error of duel.Check; nothing that was there is written.
-/
import Derived.Test.YthcaipnlgbnfkaaCDCheck
import Derived.Test.YthcaipnlgbnfkaaPureA
import Derived.Test.YthcaipnlgbnfkaaM4
import Derived.BigQuiet
import Derived.BigRegion
import Derived.RegionTactic
import Derived.Deep.QuietTactic
namespace Go.Proofs.Ythcaipnlgbnfkaa
open Go.RowKit Fm
set_option linter.unusedVariables false

theorem dworstE_any (a : Option Addr) (m c : Nat) (M : List (List Int)) (w : World) (ti : TabIn w a m M) (ht : tchk M ≠ 0) :
    Calls Try.prog 103 #[.slice a m c] w (ErrOut (tchk M) w) := by
  obtain ⟨B, hB, hr, hm, h8⟩ := ti
  have HC := Lib.hid (dcheck_any a m c M w B hB hr hm h8)
  have hne : (tchk M != 0) = true := by simpa using ht
  clear ht hr h8
  generalize tchk M = r at *
  go_enter Try.func103, Try.ntmps103
  go_wp2_with fail
  refine HC.out.mono ?_
  rintro e w1 ⟨rfl, rfl⟩
  clear HC
  go_wp2
  go_ret2
  exact ⟨none, 0, rfl, Below.refl _ w⟩

theorem worstTo_le {M : List (List Int)} (hb : ∀ x y, 0 ≤ ent M x y ∧ ent M x y ≤ 30) (x j : Nat) : worstTo M x j ≤ 30 := by
  induction j with
  | zero => simp [worstTo]
  | succ j ih =>
    simp only [worstTo]
    have := hb x j
    have := hb j x
    omega

set_option maxHeartbeats 2000000 in
set_option maxRecDepth 100000 in
theorem dworst_own (a : Option Addr) (m c : Nat) (M : List (List Int)) (w : World) (ti : TabIn w a m M) (ht : tchk M = 0) :
    Calls Try.prog 103 #[.slice a m c] w (OwnOut (worstL m M) w) := by
  obtain ⟨B, hB, hr, hm, h8⟩ := ti
  have HC := Lib.hid (dcheck_any a m c M w B hB hr hm h8)
  rw [ht] at HC
  have HT := tab_of ht
  have hlen := hr.1
  rw [hlen] at HT
  obtain ⟨n, rfl⟩ : ∃ n, n = m := ⟨_, rfl⟩
  have h1 := HT.pos
  have h6 := HT.six
  have HB30 := Lib.hid HT.bd
  obtain ⟨b, o, rfl, hbB, hsq⟩ := rdr_square hr (by omega) HT.rows
  have HSQ := Lib.hid hsq
  clear hsq hr h8 ht HT hlen hm
  have hmk : ∀ W : World, (Instr.makeSlice 22 (.int .i64 n) (.int .i64 n)).run Try.prog W = .ok (.slice (some ⟨W.heap.size, 0, none⟩) n n) (W.alloc (.cells (zeros n) 3)) := make_ints n (by omega)
  go_enter Try.func103, Try.ntmps103
  go_wp2_with fail
  refine HC.out.mono ?_
  rintro e w1 ⟨rfl, rfl⟩
  clear HC
  have own0 := own_lit w 3 (List.replicate n 0) (zeros n) rfl (by unfold maxLen; simp; omega)
  rw [List.length_replicate, upL_zero n (fun x => worstTo M x n)] at own0
  have hb0 : Below w.heap.size w (w.alloc (.cells (zeros n) 3)) := (Below.refl _ w).alloc (Nat.le_refl _) _
  go_wp2_with fail
  clear hmk
  generalize w.alloc (.cells (zeros n) 3) = w2 at *
  obtain ⟨g, hg⟩ : ∃ g, w.heap.size = g := ⟨_, rfl⟩
  have hgl : w.heap.size ≤ g := by omega
  have own1 : w2.ownsRow w.heap.size 3 1 (.slice (some ⟨g, 0, none⟩) n n) n (I (upL n (fun x => worstTo M x n) 0 0)) := by rw [hg] at own0 ⊢; exact own0
  rw [show Value.slice (some ⟨w.heap.size, 0, none⟩) n n = Value.slice (some ⟨g, 0, none⟩) n n by rw [hg]]
  clear own0 hg
  go_loopw [18] (fun i wr => ∃ k : Nat, k ≤ n ∧ i = .int .i64 k ∧ wr.ownsRow w.heap.size 3 1 (.slice (some ⟨g, 0, none⟩) n n) n (I (upL n (fun x => worstTo M x n) k 0)) ∧ Below w.heap.size w wr) (fun i _ => n - (intOf i).toNat)
  case atStart => exact ⟨0, Nat.zero_le _, rfl, own1, hb0⟩
  case round =>
    obtain ⟨k, hk, rfl, own, hbel⟩ := hrel
    clear own1 hb0
    obtain ⟨wo, rfl⟩ : ∃ wo, wo = wr := ⟨_, rfl⟩
    by_cases hkn : k < n
    · go_wp2_with fail
      go_loopw [23] (fun i wr => ∃ j : Nat, j ≤ n ∧ i = .int .i64 j ∧ wr.ownsRow w.heap.size 3 1 (.slice (some ⟨g, 0, none⟩) n n) n (I (upL n (fun x => worstTo M x n) k (worstTo M k j))) ∧ Below w.heap.size w wr) (fun i _ => n - (intOf i).toNat)
      case atStart => exact ⟨0, Nat.zero_le _, rfl, own, hbel⟩
      case round =>
        obtain ⟨j, hj, rfl, own3, hbel3⟩ := hrel
        clear own hbel
        by_cases hjn : j < n
        · obtain ⟨bx, ox, cx, r1, _, _, _, hx3⟩ := HSQ.out.below hbel3 hB hbB k hkn
          obtain ⟨by_, oy, cy, r2, _, _, _, hy3⟩ := HSQ.out.below hbel3 hB hbB j hjn
          have r3 := hx3 j hjn
          have r4 := hy3 k hkn
          have e1 := HB30.out k j
          have e2 := HB30.out j k
          have hz := hbel3.size
          clear hx3 hy3
          have ck := own_cell own3 k hkn
          have fk := own3.frozenAt k
          rw [upL_at n _ _ hkn] at ck
          have hw0 := worstTo_nonneg M k j
          have hw1 := worstTo_le HB30.out k j
          have hmv : (if worstTo M k j < ent M j k - ent M k j then ent M j k - ent M k j else worstTo M k j) = worstTo M k (j + 1) := by
            simp only [worstTo]; split <;> omega
          obtain ⟨s1, g1⟩ := own3.stored k (.int .i64 (if worstTo M k j < ent M j k - ent M k j then ent M j k - ent M k j else worstTo M k j))
          have es : (I (upL n (fun x => worstTo M x n) k (worstTo M k j))).set k (.int .i64 (if worstTo M k j < ent M j k - ent M k j then ent M j k - ent M k j else worstTo M k j)) = I (upL n (fun x => worstTo M x n) k (worstTo M k (j + 1))) := by
            rw [hmv, ← upL_set n (fun x => worstTo M x n) (worstTo M k j) (worstTo M k (j + 1)) hkn]; unfold I; rw [List.map_set]
          rw [es] at s1
          have hb5 := hbel3.grown g1 hz (fun y hy => by injection hy with hy; have := (own3.lt g rfl).1; omega)
          clear es g1 own3 hbel3 hmv
          generalize ent M k j = ekj at *
          generalize ent M j k = ejk at *
          generalize worstTo M k j = ws at *
          go_wp2_with fail
          go_region
          all_goals
            go_wp2
            go_roundw
            case rel => exact ⟨j + 1, by omega, by go_num, own_drewN s1 _, below_drewN hb5 _⟩
            case measure => simp [intOf]; omega
        · obtain rfl : j = n := by omega
          rw [upL_next _ (fun x => worstTo M x j) k] at own3
          go_wp2
          go_roundw
          case rel => exact ⟨k + 1, by omega, by go_num, own3, hbel3⟩
          case measure => simp [intOf]; omega
    · obtain rfl : k = n := by omega
      rw [upL_end] at own
      go_wp2
      go_ret2
      have hl : (worstL k M).length = k := by simp [worstL, sides_len]
      refine ⟨_, rfl, ?_, hbel⟩
      rw [hl]
      exact own
theorem dworst_any (a : Option Addr) (m c : Nat) (M : List (List Int)) (w : World) (ti : TabIn w a m M) (ht : tchk M = 0) :
    Calls Try.prog 103 #[.slice a m c] w (IntsOut (worstL m M) w) := (dworst_own a m c M w ti ht).mono fun _ _ h => h.ints

theorem dWorstE : DWorstE := dworstE_any
theorem dWorst : DWorst := dworst_any
end Go.Proofs.Ythcaipnlgbnfkaa

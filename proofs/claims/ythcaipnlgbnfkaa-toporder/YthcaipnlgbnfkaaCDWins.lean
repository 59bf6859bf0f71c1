/-
  duel.Wins: at right tables it returns Copeland's scores, otherwise the error of duel.Check; nothing that was there is written.
-/
import Derived.Test.YthcaipnlgbnfkaaCDCheck
import Derived.Test.YthcaipnlgbnfkaaPureA
import Derived.Test.YthcaipnlgbnfkaaM4
import Derived.BigQuiet
import Derived.BigRegion
import Derived.RegionTactic
import Derived.Deep.QuietTactic
namespace Go.Proofs.Ythcaipnlgbnfkaa
open Go.RowKit Fm
set_option linter.unusedVariables false

set_option maxHeartbeats 1000000 in
theorem defeats_any (n : Nat) (h6 : n ≤ 6) (M : List (List Int)) (b o c : Nat) (w : World) (B : Nat) (hsq : Sq w B b o n M) (x y : Nat) (hx : x < n) (hy : y < n) :
    Calls Try.prog 100 #[.slice (some ⟨b, o, none⟩) n c, .int .i64 x, .int .i64 y] w fun e w' => e = .returned (.bool (btB M x y)) ∧ ∃ k, w' = w.drewN k := by
  obtain ⟨bx, ox, cx, hx1, _, _, _, hx3⟩ := hsq x hx
  obtain ⟨by_, oy, cy, hy1, _, _, _, hy3⟩ := hsq y hy
  have r3 := hx3 y hy
  have r4 := hy3 x hx
  have HP : Hid (btB M x y = decide (ent M y x < ent M x y)) := rfl
  clear hsq hx3 hy3
  generalize ent M x y = e1 at *
  generalize ent M y x = e2 at *
  generalize btB M x y = r at *
  go_enter Try.func100, Try.ntmps100
  go_wp2_with fail
  go_quiet (fail)
  go_wp2
  go_ret
  exact ⟨by rw [HP.out]; rfl, _, rfl⟩

theorem dwinsE_any (a : Option Addr) (m c : Nat) (M : List (List Int)) (w : World) (ti : TabIn w a m M) (ht : tchk M ≠ 0) :
    Calls Try.prog 76 #[.slice a m c] w (ErrOut (tchk M) w) := by
  obtain ⟨B, hB, hr, hm, h8⟩ := ti
  have HC := Lib.hid (dcheck_any a m c M w B hB hr hm h8)
  have hne : (tchk M != 0) = true := by simpa using ht
  clear ht hr h8
  generalize tchk M = r at *
  go_enter Try.func76, Try.ntmps76
  go_wp2_with fail
  refine HC.out.mono ?_
  rintro e w1 ⟨rfl, rfl⟩
  clear HC
  go_wp2
  go_ret2
  exact ⟨none, 0, rfl, Below.refl _ w⟩

set_option maxHeartbeats 2000000 in
set_option maxRecDepth 100000 in
theorem dwins_any (a : Option Addr) (m c : Nat) (M : List (List Int)) (w : World) (ti : TabIn w a m M) (ht : tchk M = 0) :
    Calls Try.prog 76 #[.slice a m c] w (IntsOut (winsL m M) w) := by
  obtain ⟨B, hB, hr, hm, h8⟩ := ti
  have HC := Lib.hid (dcheck_any a m c M w B hB hr hm h8)
  rw [ht] at HC
  have HT := tab_of ht
  have hlen := hr.1
  rw [hlen] at HT
  obtain ⟨n, rfl⟩ : ∃ n, n = m := ⟨_, rfl⟩
  have h1 := HT.pos
  have h6 := HT.six
  obtain ⟨b, o, rfl, hbB, hsq⟩ := rdr_square hr (by omega) HT.rows
  have HSQ := Lib.hid hsq
  clear hsq hr h8 ht HT hlen hm
  have hmk : ∀ W : World, (Instr.makeSlice 22 (.int .i64 n) (.int .i64 n)).run Try.prog W = .ok (.slice (some ⟨W.heap.size, 0, none⟩) n n) (W.alloc (.cells (zeros n) 3)) := make_ints n (by omega)
  go_enter Try.func76, Try.ntmps76
  go_wp2_with fail
  refine HC.out.mono ?_
  rintro e w1 ⟨rfl, rfl⟩
  clear HC
  have own0 := own_lit w 3 (List.replicate n 0) (zeros n) rfl (by unfold maxLen; simp; omega)
  rw [List.length_replicate, zeroL, scTo_zero M n] at own0
  have hb0 : Below w.heap.size w (w.alloc (.cells (zeros n) 3)) := (Below.refl _ w).alloc (Nat.le_refl _) _
  go_wp2_with fail
  clear hmk
  generalize w.alloc (.cells (zeros n) 3) = w2 at *
  obtain ⟨g, hg⟩ : ∃ g, w.heap.size = g := ⟨_, rfl⟩
  have hgl : w.heap.size ≤ g := by omega
  have own1 : w2.ownsRow w.heap.size 3 1 (.slice (some ⟨g, 0, none⟩) n n) n (I (fnL n (scTo M n 0 0))) := by rw [hg] at own0 ⊢; exact own0
  rw [show Value.slice (some ⟨w.heap.size, 0, none⟩) n n = Value.slice (some ⟨g, 0, none⟩) n n by rw [hg]]
  clear own0 hg
  go_loopw [18] (fun i wr => ∃ k : Nat, k ≤ n ∧ i = .int .i64 k ∧ wr.ownsRow w.heap.size 3 1 (.slice (some ⟨g, 0, none⟩) n n) n (I (fnL n (scTo M n k 0))) ∧ Below w.heap.size w wr) (fun i _ => n - (intOf i).toNat)
  case atStart => exact ⟨0, Nat.zero_le _, rfl, own1, hb0⟩
  case round =>
    obtain ⟨k, hk, rfl, own, hbel⟩ := hrel
    clear own1 hb0
    obtain ⟨wo, rfl⟩ : ∃ wo, wo = wr := ⟨_, rfl⟩
    by_cases hkn : k < n
    · go_wp2_with fail
      go_loopw [23] (fun i wr => ∃ j : Nat, j ≤ n ∧ i = .int .i64 j ∧ wr.ownsRow w.heap.size 3 1 (.slice (some ⟨g, 0, none⟩) n n) n (I (fnL n (scTo M n k j))) ∧ Below w.heap.size w wr) (fun i _ => n - (intOf i).toNat)
      case atStart => exact ⟨0, Nat.zero_le _, rfl, own, hbel⟩
      case round =>
        obtain ⟨j, hj, rfl, own3, hbel3⟩ := hrel
        clear own hbel
        by_cases hjn : j < n
        · have HD := Lib.hid (defeats_any n h6 M b o c wr B (HSQ.out.below hbel3 hB hbB) k j hkn hjn)
          go_wp2_with fail
          refine HD.out.mono ?_
          rintro e w4 ⟨rfl, q, rfl⟩
          clear HD
          have own4 := own_drewN own3 q
          have hbel4 := below_drewN hbel3 q
          clear own3 hbel3
          generalize wr.drewN q = w4 at *
          have hz4 := hbel4.size
          cases hbt : btB M k j with
          | true =>
            have hne : k ≠ j := fun e => by subst e; rw [btB_irr] at hbt; cases hbt
            have HW := Lib.hid (scTo_won M hkn hjn hbt)
            have bk := scTo_bd M hk hj k
            have bj := scTo_bd M hk hj j
            have ck := own_cell own4 k hkn
            have fk := own4.frozenAt k
            rw [fnL_at n _ hkn] at ck
            obtain ⟨s1, g1⟩ := own4.stored k (.int .i64 (scTo M n k j k + 1))
            have es1 : (I (fnL n (scTo M n k j))).set k (.int .i64 (scTo M n k j k + 1)) = I ((fnL n (scTo M n k j)).set k (scTo M n k j k + 1)) := by unfold I; rw [List.map_set]
            rw [es1] at s1
            have hb5 := hbel4.grown g1 hz4 (fun y hy => by injection hy with hy; have := (own4.lt g rfl).1; omega)
            have cj := own_cell s1 j hjn
            have fj := s1.frozenAt j
            have ej : ((fnL n (scTo M n k j)).set k (scTo M n k j k + 1)).getD j 0 = scTo M n k j j := by
              rw [List.getD_eq_getElem?_getD, List.getElem?_set, if_neg hne, ← List.getD_eq_getElem?_getD, fnL_at n _ hjn]
            rw [ej] at cj
            obtain ⟨s2, g2⟩ := s1.stored j (.int .i64 (scTo M n k j j - 1))
            have es2 : (I ((fnL n (scTo M n k j)).set k (scTo M n k j k + 1))).set j (.int .i64 (scTo M n k j j - 1)) = I (fnL n (scTo M n k (j + 1))) := by
              rw [← HW.out]; unfold I; rw [← List.map_set]
            rw [es2] at s2
            have hb6 := hb5.grown g2 hb5.size (fun y hy => by injection hy with hy; have := (own4.lt g rfl).1; omega)
            clear es1 es2 ej HW g1 g2 s1 hb5 own4 hbel4 hbt hne
            generalize scTo M n k j k = fk0 at *
            generalize scTo M n k j j = fj0 at *
            go_wp2
            go_roundw
            case rel => exact ⟨j + 1, by omega, by go_num, s2, hb6⟩
            case measure => simp [intOf]; omega
          | false =>
            rw [scTo_not M n hbt] at own4
            clear hbt
            go_wp2
            go_roundw
            case rel => exact ⟨j + 1, by omega, by go_num, own4, hbel4⟩
            case measure => simp [intOf]; omega
        · obtain rfl : j = n := by omega
          rw [scTo_next] at own3
          go_wp2
          go_roundw
          case rel => exact ⟨k + 1, by omega, by go_num, own3, hbel3⟩
          case measure => simp [intOf]; omega
    · obtain rfl : k = n := by omega
      rw [scTo_end] at own
      go_wp2
      go_ret2
      have hl : (winsL k M).length = k := by simp [winsL, sides_len]
      refine ⟨some ⟨g, 0, none⟩, k, by rw [hl]; rfl, Nat.le_of_eq hl, by unfold maxLen; omega, ?_, hbel⟩
      rw [hl]
      exact Rd.of_own own

theorem dWinsE : DWinsE := dwinsE_any
theorem dWins : DWins := dwins_any
end Go.Proofs.Ythcaipnlgbnfkaa

/-
  slices.Equal and slices.Contains at [][2]int: what they return; nothing that was there is written.
-/
import Derived.Test.YtimjepakdldacaaPairEq
import Derived.BigQuiet
import Derived.Deep.QuietTactic
namespace Go.Proofs.Ytimjepakdldacaa
open Go.RowKit Fm
set_option linter.unusedVariables false

theorem getD_eq2 {p q : List P2} (hl : p.length = q.length) (h : ∀ j, j < p.length → p.getD j (0, 0) = q.getD j (0, 0)) : p = q := by
  apply List.ext_getElem hl
  intro j h1 h2
  have := h j h1
  rw [List.getD_eq_getElem?_getD, List.getD_eq_getElem?_getD, List.getElem?_eq_getElem h1, List.getElem?_eq_getElem h2] at this
  exact this

set_option maxHeartbeats 1000000 in
set_option maxRecDepth 100000 in
theorem equal2_any (p q : List P2) (a a2 : Option Addr) (n c n2 c2 : Nat) (w : World) (B : Nat) (hp : Rd2 w B a n p) (hq : Rd2 w B a2 n2 q) (hn : n ≤ 1000000) (hn2 : n2 ≤ 1000000) :
    Calls Try.prog 14 #[.slice a n c, .slice a2 n2 c2] w fun e w' => e = .returned (.bool (decide (p = q))) ∧ ∃ k, w' = w.drewN k := by
  obtain ⟨res, hres⟩ : ∃ res, decide (p = q) = res := ⟨_, rfl⟩
  rw [hres]
  have HRES := Lib.hid hres
  have HP := Lib.hid hp
  have HQ := Lib.hid hq
  have lp := hp.1
  have lq := hq.1
  have hgd := pairGuard
  clear hres hp hq
  by_cases hnn : n = n2
  · subst hnn
    have HLP := Lib.hid lp
    have HLQ := Lib.hid lq
    clear lp lq
    go_enter Try.func14, Try.ntmps14
    go_wp2_with fail
    go_loopw [13] (fun iv wr => ∃ i d : Nat, i ≤ n ∧ iv = .int .i64 i ∧ (∀ j, j < i → p.getD j (0, 0) = q.getD j (0, 0)) ∧ Hid (wr = w.drewN d)) (fun iv _ => n - (intOf iv).toNat)
    case atStart => exact ⟨0, 0, Nat.zero_le _, rfl, (fun j hj => by omega), (show Hid _ from by show _ = _; rfl)⟩
    case round =>
      obtain ⟨i, d, hi, rfl, hall, HWR⟩ := hrel
      have HALL := Lib.hid hall
      clear hall
      by_cases hin : i < n
      · obtain ⟨b, o, rfl, hb, hc1, hc2⟩ := HP.out.at_ hin
        obtain ⟨b', o', rfl, hb', hd1, hd2⟩ := HQ.out.at_ hin
        have r1 : wr.cell? ⟨b, o + i * 2, none⟩ = some (.int .i64 (p.getD i (0, 0)).1) := by rw [HWR.out]; exact hc1
        have r2 : wr.cell? ⟨b, o + i * 2 + 1, none⟩ = some (.int .i64 (p.getD i (0, 0)).2) := by rw [HWR.out]; exact hc2
        have r3 : wr.cell? ⟨b', o' + i * 2, none⟩ = some (.int .i64 (q.getD i (0, 0)).1) := by rw [HWR.out]; exact hd1
        have r4 : wr.cell? ⟨b', o' + i * 2 + 1, none⟩ = some (.int .i64 (q.getD i (0, 0)).2) := by rw [HWR.out]; exact hd2
        clear hc1 hc2 hd1 hd2
        have HEQ : Hid (p.getD i (0, 0) = q.getD i (0, 0) → ∀ j, j < i + 1 → p.getD j (0, 0) = q.getD j (0, 0)) := fun h j hj => by
          by_cases e : j = i
          · subst e; exact h
          · exact HALL.out j (by omega)
        have HNE : Hid (p.getD i (0, 0) ≠ q.getD i (0, 0) → res = false) := fun h => by
          rw [← HRES.out]
          exact decide_eq_false (fun e => h (by rw [e]))
        generalize p.getD i (0, 0) = x at *
        generalize q.getD i (0, 0) = y at *
        obtain ⟨x1, x2⟩ := x
        obtain ⟨y1, y2⟩ := y
        dsimp only at r1 r2 r3 r4
        by_cases e : (x1, x2) = (y1, y2)
        · injection e with e1 e2
          subst e1; subst e2
          have HX := Lib.hid (HEQ.out rfl)
          have hpi : ∀ w, (Op.equalIn 10000 34 (.agg #[.int .i64 x1, .int .i64 x2]) (.agg #[.int .i64 x1, .int .i64 x2])).run Try.prog w = .ok true w := fun w => by rw [pairIn]; simp
          clear HEQ HNE HALL
          go_wp2_with fail
          go_quiet (fail)
          go_wp2
          go_roundw
          case rel => exact ⟨i + 1, d + nq, by omega, by go_num, HX.out, (show Hid _ from by show _ = _; rw [HWR.out, World.drewN_drewN])⟩
          case measure => simp [intOf]; omega
        · obtain rfl := HNE.out e
          have hne : (x1 == y1 && x2 == y2) = false := by
            by_cases h1 : x1 = y1
            · by_cases h2 : x2 = y2
              · exact absurd (by rw [h1, h2]) e
              · simp [h2]
            · simp [h1]
          have hpi : ∀ w, (Op.equalIn 10000 34 (.agg #[.int .i64 x1, .int .i64 x2]) (.agg #[.int .i64 y1, .int .i64 y2])).run Try.prog w = .ok false w := fun w => by rw [pairIn, hne]
          clear HEQ HNE HALL e hne
          go_wp2_with fail
          go_quiet (fail)
          go_wp2
          go_ret
          exact ⟨rfl, d + nq, by rw [HWR.out, World.drewN_drewN]⟩
      · obtain rfl : i = n := by omega
        have HX : Hid (res = true) := by
          show _ = _
          rw [← HRES.out]
          exact decide_eq_true (getD_eq2 (by rw [HLP.out, HLQ.out]) (fun j hj => HALL.out j (by rw [HLP.out] at hj; exact hj)))
        go_wp2
        go_ret
        exact ⟨by rw [HX.out]; rfl, d, HWR.out⟩
  · have HX : Hid (res = false) := by
      show _ = _
      rw [← HRES.out]
      exact decide_eq_false (fun e => hnn (by rw [← lp, ← lq, e]))
    have hb : ((n : Int) != (n2 : Int)) = true := by rw [bne_iff_ne]; omega
    clear lp lq
    go_enter Try.func14, Try.ntmps14
    go_wp2
    go_ret
    exact ⟨by rw [HX.out]; rfl, 0, rfl⟩
end Go.Proofs.Ytimjepakdldacaa

/-
  plumeref.TopOf at a right table: it returns the Smith set; nothing that was there is written.
-/
import Derived.Test.YtbmefccljbndeaaPush
import Derived.Test.YtbmefccljbndeaaOpen
import Derived.Test.YtbmefccljbndeaaDuelMath
import Derived.BigQuiet
import Derived.Deep.QuietTactic
import Derived.WalkKit
import Derived.KernelRfl
import Derived.Laws.NewBlocks
namespace Go.Proofs.Ytbmefccljbndeaa
open Go.RowKit Fm
set_option linter.unusedVariables false

theorem wrap_pow : ∀ n, n < 7 → wrap64 ((2 : Int) ^ n) = ((2 ^ n : Nat) : Int) := by decide +kernel
theorem bit_at : ∀ s : Nat, s < 64 → ∀ x : Nat, x < 6 → (bits BinOp.and IntKind.i64 ((s : Int) / 2 ^ x) 1 == 0) = !(Nat.testBit s x) := by decide +kernel

theorem nil_nil (w : World) : Sem.run Try.prog (binOp BinOp.eql 23 (.slice none 0 0) (.slice none 0 0)) w = .ok (.bool true) w := rfl
theorem some_nil (x : Addr) (n c : Nat) (w : World) : Sem.run Try.prog (binOp BinOp.eql 23 (.slice (some x) n c) (.slice none 0 0)) w = .ok (.bool false) w := rfl
/-- The search's best so far: nil, or a row of the call's own. -/
def BestV (w : World) (B : Nat) (v : Value) (l : List Int) : Prop :=
  (l = [] ∧ v = .slice none 0 0) ∨ (l ≠ [] ∧ ∃ g cap, v = .slice (some ⟨g, 0, none⟩) l.length cap ∧ w.ownsRow B 3 1 (.slice (some ⟨g, 0, none⟩) l.length cap) l.length (I l))
theorem BestV.below {w w' : World} {B B' : Nat} {v : Value} {l : List Int} (h : BestV w B v l) (hb : Below B' w w') (hB : w.heap.size ≤ B') : BestV w' B v l := by
  rcases h with h | ⟨h1, g, cap, h2, h3⟩
  · exact .inl h
  · exact .inr ⟨h1, g, cap, h2, own_below h3 hb hB⟩
theorem setL_succ (n s : Nat) : setL (n + 1) s = setL n s ++ if s.testBit n then [(n : Int)] else [] := by
  unfold setL
  rw [List.range_succ, List.filter_append, List.map_append]
  congr 1
  cases h : s.testBit n <;> simp [h]
/-- Of the set s the first x are held against all others. -/
def domTo (n : Nat) (M : List (List Int)) (s x : Nat) : Bool := (List.range x).all fun x => (List.range n).all fun y => !(s.testBit x) || s.testBit y || decide (ent M y x < ent M x y)
def rowTo (M : List (List Int)) (s x j : Nat) : Bool := (List.range j).all fun y => s.testBit y || decide (ent M y x < ent M x y)
theorem domTo_succ_no {n : Nat} {M : List (List Int)} {s x : Nat} (h : s.testBit x = false) : domTo n M s (x + 1) = domTo n M s x := by
  unfold domTo
  rw [List.range_succ, List.all_append]
  simp [h]
theorem domTo_succ_yes {n : Nat} {M : List (List Int)} {s x : Nat} (h : s.testBit x = true) : domTo n M s (x + 1) = (domTo n M s x && rowTo M s x n) := by
  unfold domTo rowTo
  rw [List.range_succ, List.all_append]
  simp [h]
theorem rowTo_succ {M : List (List Int)} {s x j : Nat} : rowTo M s x (j + 1) = (rowTo M s x j && (s.testBit j || decide (ent M j x < ent M x j))) := by
  unfold rowTo
  rw [List.range_succ, List.all_append]
  simp

set_option maxHeartbeats 4000000 in
set_option maxRecDepth 100000 in
theorem topOf_any {n : Nat} (a : Option Addr) (c : Nat) (M : List (List Int)) (w : World) (B : Nat) (hB : B ≤ w.heap.size) (hr : RdR w B a n M) (ht : Tab n M) :
    Calls Try.prog 16 #[.slice a n c] w fun e w' => ∃ g cap, e = .returned (.slice (some ⟨g, 0, none⟩) (topL n M).length cap) ∧ w'.ownsRow w.heap.size 3 1 (.slice (some ⟨g, 0, none⟩) (topL n M).length cap) (topL n M).length (I (topL n M)) ∧ Below w.heap.size w w' := by
  have h1 := ht.pos
  have h6 := ht.six
  obtain ⟨b, o, rfl, hbB, hrows⟩ := hr.2 (by omega)
  have HROW : Hid (∀ x, x < n → ∃ bx ox cx, w.cell? ⟨b, o + x, none⟩ = some (.slice (some ⟨bx, ox, none⟩) n cx) ∧ bx < B ∧ ∀ y, y < n → w.cell? ⟨bx, ox + y, none⟩ = some (.int .i64 (ent M x y))) := fun x hx => by
    obtain ⟨a', c', h2, _, _, _, h5⟩ := hrows x hx
    have hln := ht.rows _ (memR (M := M) (x := x) (by rw [ht.len]; exact hx))
    rw [hln] at h2 h5
    obtain ⟨bx, ox, rfl, h6, h7⟩ := h5.2 (by omega)
    exact ⟨bx, ox, c', h2, h6, h7⟩
  have HT := Lib.hid ht
  clear hrows hr ht
  obtain ⟨N, hN⟩ : ∃ N : Nat, N = 2 ^ n := ⟨_, rfl⟩
  have hw : wrap64 ((2 : Int) ^ n) = (N : Int) := by rw [hN]; exact wrap_pow n (by omega)
  have hN2 : 2 ≤ N := by rw [hN]; exact (Nat.pow_le_pow_right (by omega) h1 : 2 ^ 1 ≤ 2 ^ n)
  have hN64 : N ≤ 64 := by rw [hN]; exact (Nat.pow_le_pow_right (by omega) h6 : 2 ^ n ≤ 2 ^ 6)
  have HN := Lib.hid hN
  clear hN
  go_enter Try.func16, Try.ntmps16
  go_wp2_with fail
  go_loopw [3, 4] (fun v i wr => ∃ s : Nat, 1 ≤ s ∧ s ≤ N ∧ i = .int .i64 s ∧ BestV wr w.heap.size v (bestTo n M s) ∧ Below w.heap.size w wr) (fun _ i _ => N - (intOf i).toNat)
  case atStart => exact ⟨1, Nat.le_refl _, by omega, rfl, .inl ⟨rfl, rfl⟩, Below.refl _ w⟩
  case round =>
    obtain ⟨s, hs1, hsN, rfl, hbest, hbel⟩ := hrel
    have hz := hbel.size
    by_cases hs : s < N
    · have HBIT : Hid (∀ x, x < n → (bits BinOp.and IntKind.i64 ((s : Int) / 2 ^ x) 1 == 0) = !(Nat.testBit s x)) := fun x hx => bit_at s (by omega) x (by omega)
      have HBV := Lib.hid hbest
      have HBL := Lib.hid hbel
      clear hbest hbel
      obtain ⟨w2, rfl⟩ : ∃ w2, w2 = wr := ⟨_, rfl⟩
      go_wp2_with fail
      clear hw
      go_loopw [5, 6, 18] (fun ok l i wr => ∃ x : Nat, x ≤ n ∧ i = .int .i64 x ∧ ok = .bool (domTo n M s x) ∧ wr.ownsRow w2.heap.size 3 1 l (setL x s).length (I (setL x s)) ∧ Below w2.heap.size w2 wr) (fun _ _ i _ => n - (intOf i).toNat)
      case atStart => exact ⟨0, Nat.zero_le _, rfl, rfl, World.ownsRow_nil _ _ _ _, Below.refl _ w2⟩
      case round =>
        obtain ⟨x, hx, rfl, rfl, hown, hbel3⟩ := hrel
        have hz3 := hbel3.size
        by_cases hxn : x < n
        · have hbit := HBIT.out x hxn
          cases hbx : s.testBit x with
          | false =>
            rw [hbx] at hbit
            have e1 := setL_succ x s
            rw [hbx] at e1
            simp at e1
            rw [← e1] at hown
            have e2 := domTo_succ_no (n := n) (M := M) hbx
            have hb2 : (bits BinOp.and IntKind.i64 ((s : Int) / 2 ^ x) 1 == 0) = true := hbit
            generalize domTo n M s x = dd at *
            clear hbit hbx e1
            go_wp2
            go_roundw
            case rel => exact ⟨x + 1, by omega, by go_num, by rw [e2], hown, hbel3⟩
            case measure => simp [intOf]; omega
          | true =>
            rw [hbx] at hbit
            have hb2 : (bits BinOp.and IntKind.i64 ((s : Int) / 2 ^ x) 1 == 0) = false := hbit
            have e1 := setL_succ x s
            rw [hbx] at e1
            simp at e1
            have e2 := domTo_succ_yes (n := n) (M := M) hbx
            have HE1 := Lib.hid e1
            have HE2 := Lib.hid e2
            have hsl : (setL x s).length ≤ x := by unfold setL; rw [List.length_map]; exact Nat.le_trans (List.length_filter_le _ _) (by simp)
            clear hbit hbx e1 e2
            generalize hSX : setL x s = sx at *
            clear hSX
            generalize hDD : domTo n M s x = dd at *
            clear hDD
            go_wp2_with (at_builtin; go_must (refine push1 rfl _ _ rfl wr w2.heap.size _ sx.length sx x rfl rfl (by exact hown) hz3 (by omega) ?_))
            intro g cap w4 hown4 hgr _ _
            have hb4 : Below w2.heap.size w2 w4 := hbel3.grown hgr hz3 (own_not hown)
            have e3 : sx.length + 1 = (setL (x + 1) s).length := by rw [HE1.out]; simp
            rw [← HE1.out, e3] at hown4
            rw [e3]
            clear hgr hown hbel3 e3
            go_wp2_with fail
            go_loopw [5, 32] (fun ok i wr => ∃ j : Nat, j ≤ n ∧ i = .int .i64 j ∧ ok = .bool (dd && rowTo M s x j) ∧ wr.ownsRow w2.heap.size 3 1 (.slice (some ⟨g, 0, none⟩) (setL (x + 1) s).length cap) (setL (x + 1) s).length (I (setL (x + 1) s)) ∧ Below w2.heap.size w2 wr) (fun _ i _ => n - (intOf i).toNat)
            case atStart => exact ⟨0, Nat.zero_le _, rfl, by simp [rowTo], hown4, hb4⟩
            case round =>
              obtain ⟨j, hj, rfl, rfl, hown5, hbel5⟩ := hrel
              clear hown4 hb4
              by_cases hjn : j < n
              · have hbitj := HBIT.out j hjn
                have e4 := rowTo_succ (M := M) (s := s) (x := x) (j := j)
                cases hbj : s.testBit j with
                | true =>
                  rw [hbj] at hbitj e4
                  have hb3 : (bits BinOp.and IntKind.i64 ((s : Int) / 2 ^ j) 1 == 0) = false := hbitj
                  have HE4 : Hid ((dd && rowTo M s x (j + 1)) = (dd && rowTo M s x j)) := by show _ = _; rw [e4]; simp
                  generalize (dd && rowTo M s x j) = dr at *
                  clear hbitj hbj e4
                  go_wp2_with fail
                  go_quiet (fail)
                  go_wp2
                  go_roundw
                  case rel => exact ⟨j + 1, by omega, by go_num, by rw [HE4.out], own_drewN hown5 _, below_drewN hbel5 _⟩
                  case measure => simp [intOf]; omega
                | false =>
                  rw [hbj] at hbitj e4
                  have hb3 : (bits BinOp.and IntKind.i64 ((s : Int) / 2 ^ j) 1 == 0) = true := hbitj
                  obtain ⟨bx, ox, cx, hx1, hx2, hx3⟩ := HROW.out x hxn
                  obtain ⟨by_, oy, cy, hy1, hy2, hy3⟩ := HROW.out j hjn
                  have hall := HBL.out.trans (hbel5.mono hz)
                  have r1 : wr.cell? ⟨b, o + x, none⟩ = some (.slice (some ⟨bx, ox, none⟩) n cx) := (hall.cell (by show b < _; omega)).trans hx1
                  have r2 : wr.cell? ⟨b, o + j, none⟩ = some (.slice (some ⟨by_, oy, none⟩) n cy) := (hall.cell (by show b < _; omega)).trans hy1
                  have r3 : wr.cell? ⟨bx, ox + j, none⟩ = some (.int .i64 (ent M x j)) := (hall.cell (by show bx < _; omega)).trans (hx3 j hjn)
                  have r4 : wr.cell? ⟨by_, oy + x, none⟩ = some (.int .i64 (ent M j x)) := (hall.cell (by show by_ < _; omega)).trans (hy3 x hxn)
                  clear hx1 hx3 hy1 hy3 hall
                  by_cases hc : ent M x j ≤ ent M j x
                  · have HE4 : Hid ((dd && rowTo M s x (j + 1)) = false) := by
                      show _ = _
                      rw [e4]
                      have : decide (ent M j x < ent M x j) = false := by simpa using hc
                      simp [this]
                    have hcd : decide (ent M x j ≤ ent M j x) = true := by simpa using hc
                    generalize (dd && rowTo M s x j) = dr at *
                    generalize ent M x j = e5 at r3 hc hcd
                    generalize ent M j x = e6 at r4 hc hcd
                    clear hbitj hbj e4
                    go_wp2_with fail
                    go_quiet (fail)
                    go_wp2
                    go_roundw
                    case rel => exact ⟨j + 1, by omega, by go_num, by rw [HE4.out], own_drewN hown5 _, below_drewN hbel5 _⟩
                    case measure => simp [intOf]; omega
                  · have HE4 : Hid ((dd && rowTo M s x (j + 1)) = (dd && rowTo M s x j)) := by
                      show _ = _
                      rw [e4]
                      have : decide (ent M j x < ent M x j) = true := by simpa using hc
                      simp [this]
                    have hcd : decide (ent M x j ≤ ent M j x) = false := by simpa using hc
                    generalize (dd && rowTo M s x j) = dr at *
                    generalize ent M x j = e5 at r3 hc hcd
                    generalize ent M j x = e6 at r4 hc hcd
                    clear hbitj hbj e4
                    go_wp2_with fail
                    go_quiet (fail)
                    go_wp2
                    go_roundw
                    case rel => exact ⟨j + 1, by omega, by go_num, by rw [HE4.out], own_drewN hown5 _, below_drewN hbel5 _⟩
                    case measure => simp [intOf]; omega
              · obtain rfl : j = n := by omega
                rw [← HE2.out]
                go_wp2
                go_roundw
                case rel => exact ⟨x + 1, by omega, by go_num, rfl, hown5, hbel5⟩
                case measure => simp [intOf]; omega
        · obtain rfl : x = n := by omega
          have hne := setL_nil (n := x) (s := s) (by omega) (by rw [← HN.out]; exact hs)
          have hpl : 0 < (setL x s).length := by
            rcases Nat.eq_zero_or_pos (setL x s).length with h | h
            · exact absurd (List.eq_nil_of_length_eq_zero h) hne
            · exact h
          obtain ⟨g, cap, rfl, hg1, hg2, hg3, hg4, _⟩ := own_form hown hpl
          have HBL2 := Lib.hid (HBL.out.trans (hbel3.mono hz))
          have HBV2 := Lib.hid (HBV.out.below hbel3 (Nat.le_refl _))
          have HNB : Hid (BestV wr w.heap.size (.slice (some ⟨g, 0, none⟩) (setL x s).length cap) (setL x s)) := .inr ⟨hne, g, cap, rfl, own_mono hown hz⟩
          have HDD : Hid (dom x M s = domTo x M s x) := rfl
          have HS0 : Hid (s ≠ 0) := by show s ≠ 0; omega
          clear hown hbel3
          cases hdm : domTo x M s x with
          | false =>
            have HE : Hid (bestTo x M (s + 1) = bestTo x M s) := by
              show _ = _
              simp only [bestTo]
              rw [if_neg (fun h => by have := h.2.1; rw [HDD.out, hdm] at this; cases this)]
            rw [hdm] at HDD
            clear hdm
            go_wp2
            go_roundw
            case rel => exact ⟨s + 1, by omega, by omega, by go_num, by rw [HE.out]; exact HBV2.out, HBL2.out⟩
            case measure => simp [intOf]; omega
          | true =>
            rw [hdm] at HDD
            clear hdm
            rcases HBV2.out with ⟨hb0, rfl⟩ | ⟨hb0, g2, cap2, rfl, hown2⟩
            · have HE : Hid (bestTo x M (s + 1) = setL x s) := by
                show _ = _
                simp only [bestTo]
                rw [if_pos ⟨HS0.out, HDD.out, .inl hb0⟩]
              clear hb0
              have hq := nil_nil wr
              go_wp2
              go_roundw
              case rel => exact ⟨s + 1, by omega, by omega, by go_num, by rw [HE.out]; exact HNB.out, HBL2.out⟩
              case measure => simp [intOf]; omega
            · by_cases hlt : (setL x s).length < (bestTo x M s).length
              · have HE : Hid (bestTo x M (s + 1) = setL x s) := by
                  show _ = _
                  simp only [bestTo]
                  rw [if_pos ⟨HS0.out, HDD.out, .inr hlt⟩]
                have hlt2 : (((setL x s).length : Nat) : Int) < (((bestTo x M s).length : Nat) : Int) := by omega
                clear hb0 hown2
                generalize (bestTo x M s).length = l2 at *
                generalize (setL x s).length = l1 at *
                have hq := some_nil ⟨g2, 0, none⟩ l2 cap2 wr
                go_wp2
                go_roundw
                case rel => exact ⟨s + 1, by omega, by omega, by go_num, by rw [HE.out]; exact HNB.out, HBL2.out⟩
                case measure => simp [intOf]; omega
              · have HE : Hid (bestTo x M (s + 1) = bestTo x M s) := by
                  show _ = _
                  simp only [bestTo]
                  rw [if_neg (fun h => by rcases h.2.2 with h | h; exact hb0 h; exact hlt h)]
                have hlt2 : ¬ (((setL x s).length : Nat) : Int) < (((bestTo x M s).length : Nat) : Int) := by omega
                clear hb0 hown2
                generalize (bestTo x M s).length = l2 at *
                generalize (setL x s).length = l1 at *
                have hq := some_nil ⟨g2, 0, none⟩ l2 cap2 wr
                go_wp2
                go_roundw
                case rel => exact ⟨s + 1, by omega, by omega, by go_num, by rw [HE.out]; exact HBV2.out, HBL2.out⟩
                case measure => simp [intOf]; omega
    · obtain rfl : s = N := by omega
      have e := bestTo_top (n := n) (M := M) h1
      rw [← HN.out] at e
      rw [e] at hbest
      clear e
      have hne : topL n M ≠ [] := by
        have e := bestTo_top (n := n) (M := M) h1
        rcases bestTo_inv n M (2 ^ n) (Nat.le_refl _) with ⟨hb, hno⟩ | ⟨u, hu0, hus, hud, hbu, hmin⟩
        · have := hno (2 ^ n - 1) (by have := HN.out; omega) (by have := HN.out; omega)
          rw [full_dom] at this
          cases this
        · rw [← e, hbu]; exact setL_nil hu0 hus
      rcases hbest with ⟨hb0, _⟩ | ⟨hb0, g2, cap2, rfl, hown2⟩
      · exact absurd hb0 hne
      · clear hne hb0
        go_wp2
        go_ret
        exact ⟨g2, cap2, rfl, hown2, hbel⟩
end Go.Proofs.Ytbmefccljbndeaa

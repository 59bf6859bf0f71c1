/-
  plumekeep.DuelWorst returns true, for every slice of slices of ints, if package duel keeps its contracts; nothing that was there is written.
-/
import Derived.Test.YtbmefccljbndeaaCDuels0
import Derived.Test.YtbmefccljbndeaaWinSetMath
import Derived.Test.YtbmefccljbndeaaSquare
import Derived.BigQuiet
import Derived.Deep.QuietTactic
namespace Go.Proofs.Ytbmefccljbndeaa
open Go.RowKit Fm
set_option linter.unusedVariables false

def T3 : List (List Int) := [[0, 3], [1, 0]]
theorem t3_ok : tchk T3 = 0 := by decide
theorem t3_worst : worstL 2 T3 = [0, 2] := by decide +kernel
theorem tabIn_isRows {w : World} {v : Value} {M : List (List Int)} (f : IsRows w v M) : ∃ a c, v = .slice a M.length c ∧ TabIn w a M.length M := by
  obtain ⟨a, c, rfl, hr, hall, hlc, _, hcm, h24⟩ := f
  exact ⟨a, c, rfl, w.heap.size, Nat.le_refl _, hr, by omega, fun l hl => by have := (hall l hl).2; omega⟩

set_option maxHeartbeats 4000000 in
set_option maxRecDepth 100000 in
theorem duelWorst_is (dW : DWins) (dT : DTop) (dRE : DWorstE) (dR : DWorst) (v : Value) (M : List (List Int)) {w : World} (f : IsRows w v M) :
    Calls Try.prog 7 #[v] w fun e w' => e = .returned (.bool true) ∧ Below w.heap.size w w' := by
  obtain ⟨a, c, rfl, ti⟩ := tabIn_isRows f
  clear f
  have TI := Lib.hid ti
  have D0 : Hid (∀ W, Calls Try.prog 24 #[] W fun e w' => e = .returned (.bool true) ∧ Below W.heap.size W w') := fun W => duels0_any dW dT W
  have DR : Hid DWorst := dR
  have DRE : Hid DWorstE := dRE
  clear dW dT dR dRE ti
  have L1 := Lib.hid (lit2 w 3 23 [0, 3] [1, 0] #[.int .i64 0, .int .i64 3] #[.int .i64 1, .int .i64 0] rfl rfl (by decide) (by decide))
  go_enter Try.func7, Try.ntmps7
  go_wp2_with fail
  obtain ⟨r1, b1⟩ := L1.out
  have q1 := DR.out (some ⟨w.heap.size + 1 + 1, 0, none⟩) 2 2 T3 _ (tabIn_small r1 (by decide) (by decide)) t3_ok
  refine q1.mono ?_
  rintro e w1 ⟨a1, c1, rfl, _, _, rt, hb1⟩
  rw [t3_worst] at rt ⊢
  have RT := Lib.hid rt
  have HB := Lib.hid (ext_trans b1 hb1)
  clear q1 r1 b1 hb1 L1 rt
  have L3 := Lib.hid (Rd.lit w1 3 [0, 2] #[.int .i64 0, .int .i64 2] rfl)
  have b4 : Below w1.heap.size w1 (w1.alloc (.cells #[.int .i64 0, .int .i64 2] 3)) := (Below.refl _ _).alloc (by omega) _
  go_wp2_with fail
  have q3 := equal_ext [0, 2] [0, 2] a1 (some ⟨w1.heap.size, 0, none⟩) 2 c1 2 2 (w1.alloc (.cells #[.int .i64 0, .int .i64 2] 3)) (rd_ext RT.out b4) (L3.out.more (by simp)) (by omega) (by omega)
  refine q3.mono ?_
  rintro e w4 ⟨rfl, hb4⟩
  have HB4 := Lib.hid (ext_trans HB.out (ext_trans b4 hb4))
  clear q3 b4 hb4 L3 RT HB
  go_wp2_with fail
  refine (D0.out w4).mono ?_
  rintro e w5 ⟨rfl, hb5⟩
  have HB5 := Lib.hid (ext_trans HB4.out hb5)
  clear hb5 HB4
  go_wp2_with fail
  by_cases hw : tchk M = 0
  · have HT := Lib.hid (tab_of hw)
    have q5 := DR.out a M.length c M w5 (TI.out.below HB5.out) hw
    obtain ⟨n, hn⟩ : ∃ n, M.length = n := ⟨_, rfl⟩
    have hrl : (worstL n M).length = n := by simp [worstL, sides_len]
    rw [hn] at q5 TI HT ⊢
    have h1 := HT.out.pos
    have h6 := HT.out.six
    refine q5.mono ?_
    rintro e w6 ⟨a6, c6, rfl, _, _, r6, hb6⟩
    rw [hrl] at r6 ⊢
    obtain ⟨B, hB, hrM, _⟩ := TI.out
    obtain ⟨b, o, rfl, hbB, sq⟩ := rdr_square hrM (by omega) HT.out.rows
    have HB6 := Lib.hid (ext_trans HB5.out hb6)
    have hall := HB6.out
    have SQ := Lib.hid (sq.below hall hB hbB)
    obtain ⟨b6, o6, rfl, hb6', hc6⟩ := r6.2 (by omega)
    have HC6 : Hid (∀ x, x < n → w6.cell? ⟨b6, o6 + x, none⟩ = some (.int .i64 (worstTo M x n))) := fun x hx => by
      rw [hc6 x hx]
      unfold worstL
      rw [map_sides_getD n _ hx]
      simp
    clear q5 hw hn hrl r6 hrM sq hb6 HB5 hall hc6 D0 DR DRE TI
    go_wp2_with fail
    go_loopw [53] (fun i wr => ∃ x k : Nat, x ≤ n ∧ i = .int .i64 x ∧ wr = w6.drewN k) (fun i _ => n - (intOf i).toNat)
    case atStart => exact ⟨0, 0, Nat.zero_le _, rfl, rfl⟩
    case round =>
      obtain ⟨x, k, hx, rfl, rfl⟩ := hrel
      by_cases hxn : x < n
      · have cw : ∀ k, (w6.drewN k).cell? ⟨b6, o6 + x, none⟩ = some (.int .i64 (worstTo M x n)) := fun k => HC6.out x hxn
        have HGE : Hid (∀ y, y < n → ent M y x - ent M x y ≤ worstTo M x n) := fun y hy => worst_ge M x hy
        have HAT := Lib.hid (worst_att M x n)
        have hw0 := worstTo_nonneg M x n
        generalize worstTo M x n = W at *
        have cw0 := cw k
        go_wp2_with fail
        go_loopw [8, 63] (fun fv i wr => ∃ (y k : Nat) (fd : Bool), y ≤ n ∧ i = .int .i64 y ∧ fv = .bool fd ∧ wr = w6.drewN k ∧ (fd = true ↔ W = 0 ∨ ∃ z, z < y ∧ ent M z x - ent M x z = W)) (fun _ i _ => n - (intOf i).toNat)
        case atStart => exact ⟨0, k, _, Nat.zero_le _, rfl, rfl, rfl, by
          constructor
          · intro h; left; simpa using h
          · rintro (h | ⟨z, hz, _⟩)
            · simpa using h
            · omega⟩
        case round =>
          obtain ⟨y, k2, fd, hy, rfl, rfl, rfl, hfd⟩ := hrel
          have HFD := Lib.hid hfd
          clear hfd cw0
          have cw2 := cw k2
          by_cases hyn : y < n
          · obtain ⟨bx, ox, cx, hx1, hx2, hx4, hx5, hx3⟩ := SQ.out x hxn
            obtain ⟨by_, oy, cy, hy1, hy2, hy4, hy5, hy3⟩ := SQ.out y hyn
            have r3 := hx3 y hyn
            have r4 := hy3 x hxn
            clear hx3 hy3
            have e1 := HT.out.bd x y
            have e2 := HT.out.bd y x
            have hge := HGE.out y hyn
            have hng : ¬ W < ent M y x - ent M x y := by omega
            have HN : Hid ((ent M y x - ent M x y = W ∨ fd = true) ↔ (W = 0 ∨ ∃ z, z < y + 1 ∧ ent M z x - ent M x z = W)) := by
              show _ ↔ _
              rw [HFD.out]
              constructor
              · rintro (h | h | ⟨z, hz, h⟩)
                · exact .inr ⟨y, by omega, h⟩
                · exact .inl h
                · exact .inr ⟨z, by omega, h⟩
              · rintro (h | ⟨z, hz, h⟩)
                · exact .inr (.inl h)
                · by_cases hzy : z = y
                  · subst hzy; exact .inl h
                  · exact .inr (.inr ⟨z, by omega, h⟩)
            generalize ent M y x = eyx at r4 e2 hge hng HN
            generalize ent M x y = exy at r3 e1 hge hng HN
            cases fd with
            | true =>
              have HX : Hid (W = 0 ∨ ∃ z, z < y + 1 ∧ ent M z x - ent M x z = W) := HN.out.1 (.inr rfl)
              go_wp2_with fail
              go_quiet (fail)
              go_wp2
              go_roundw
              case rel => exact ⟨y + 1, _, true, by omega, by go_num, rfl, rfl, fun _ => HX.out, fun _ => rfl⟩
              case measure => simp [intOf]; omega
            | false =>
              have HX : Hid ((eyx - exy == W) = true ↔ (W = 0 ∨ ∃ z, z < y + 1 ∧ ent M z x - ent M x z = W)) := by
                show _ ↔ _
                rw [← HN.out]; simp
              go_wp2_with fail
              go_quiet (fail)
              go_wp2
              go_roundw
              case rel => exact ⟨y + 1, _, _, by omega, by go_num, rfl, rfl, HX.out⟩
              case measure => simp [intOf]; omega
          · obtain rfl : y = n := by omega
            have hf : fd = true := HFD.out.2 HAT.out
            subst hf
            have hw1 : ¬ W < 0 := by omega
            go_wp2
            go_roundw
            case rel => exact ⟨x + 1, _, by omega, by go_num, rfl⟩
            case measure => simp [intOf]; omega
      · obtain rfl : x = n := by omega
        go_wp2
        go_ret
        exact ⟨rfl, ext_drewN HB6.out _⟩
  · have hne : (tchk M != 0) = true := by simpa using hw
    refine (DRE.out a M.length c M w5 (TI.out.below HB5.out) hw).mono ?_
    rintro e w6 ⟨a6, c6, rfl, hb6⟩
    have HB6 := Lib.hid (ext_trans HB5.out hb6)
    clear hb6 HB5 hw D0 DR DRE
    generalize tchk M = cc at *
    go_wp2
    go_ret
    exact ⟨rfl, HB6.out⟩
end Go.Proofs.Ytbmefccljbndeaa

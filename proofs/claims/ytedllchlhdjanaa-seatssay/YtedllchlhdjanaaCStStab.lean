/-
  slices.stableCmpFunc and slices.SortStableFunc on a row of parts: the row sorted, equals in the order in which they lay.
-/
import Derived.Test.YtedllchlhdjanaaCStSym
import Derived.Test.YtedllchlhdjanaaStabBlk
namespace Go.Proofs.Ytedllchlhdjanaa
open Go.Shelf Go.RowKit Go.Lib Go.Sort Fm
set_option linter.unusedVariables false

set_option maxHeartbeats 4000000 in
set_option maxRecDepth 100000 in
theorem stStab_any {P : Program} {k : Nat} (Y : Ly P k) {enc : Nat → List Value} {w0 : World} {blk n g : Nat} {cf : Nat → Nat → Int} {lt : Nat → Nat → Prop} (R : Row0 enc k w0 blk n) (C : Cmp0 P enc k w0 blk n g cf) (O : CmpLt cf lt) (hn0 : 0 < n) (hn : n ≤ 100000) (cap : Nat) {w : World} (S : SW enc k w0 blk n id w) :
    Calls P 33 #[.slice (some ⟨blk, 0, none⟩) n cap, .int .i64 n, .func (.func g) #[] #[]] w fun e w' => e = .returned (.tuple #[]) ∧ ∃ d', SW enc k w0 blk n d' w' ∧ Seg lt 0 n d' := by
  have mixed := Y.mixed; have tI := Y.tI; have aI := Y.aI; have zI := Y.zI; have tU := Y.tU; have aU := Y.aU; have zU := Y.zU; have tB := Y.tB; have aB := Y.aB; have zB := Y.zB; have tS := Y.tS; have aS := Y.aS; have zS := Y.zS; have aE := Y.aE; have zE := Y.zE
  have uS := run_underlying Y.tS
  have e35 : ∀ args w, (callFunc 35 args).run P w = .ok (.enter 35 args) w := enters_of Y.f35 (by kernel_rfl) rfl
  have e36 : ∀ args w, (callFunc 36 args).run P w = .ok (.enter 36 args) w := enters_of Y.f36 (by kernel_rfl) rfl
  have S0 : Hid (SW enc k w0 blk n id w) := S
  have QI : Hid (∀ (d : Nat → Nat) (w : World), SW enc k w0 blk n d w → ∀ (a b : Nat), a ≤ b → b ≤ n → (∀ x y, a ≤ x → x < y → d x < d y) → Calls P 35 #[.slice (some ⟨blk, 0, none⟩) n cap, .int .i64 a, .int .i64 b, .func (.func g) #[] #[]] w fun e w' => e = .returned (.tuple #[]) ∧ ∃ d', SW enc k w0 blk n d' w' ∧ Mix a b d d' ∧ Srt lt a b d') := fun d w S a b q1 q2 q3 => stIns_any Y R C O hn cap S q1 q2 (fun x y h1 h2 _ => q3 x y h1 h2)
  have QS : Hid (∀ (a m b : Nat) (d : Nat → Nat) (w : World), a < m → m < b → b ≤ n → SW enc k w0 blk n d w → Seg lt a m d → Seg lt m b d → Calls P 36 #[.slice (some ⟨blk, 0, none⟩) n cap, .int .i64 a, .int .i64 m, .int .i64 b, .func (.func g) #[] #[]] w (SymOut lt enc k w0 blk n a b d)) := fun a m b d w q1 q2 q3 S s1 s2 =>
    stSym_any Y R C O hn cap (b - a) a m b d w (Nat.le_refl _) q1 q2 q3 S s1.srt s2.srt (s1.crs s2)
  clear S R C O
  go_enter Y.f33, Try.ntmps33
  go_wp2
  go_loopw [7, 8] (fun av bv wr => ∃ (a : Nat) (d : Nat → Nat), av = .int .i64 a ∧ bv = .int .i64 ((a : Int) + 20) ∧ a ≤ n ∧ Hid (SW enc k w0 blk n d wr) ∧ Hid (First lt a d)) (fun av _ _ => n - (intOf av).toNat)
  case atStart => exact ⟨0, id, rfl, rfl, Nat.zero_le _, S0, (show Hid _ from first_start)⟩
  case round =>
    obtain ⟨a, d, rfl, rfl, han, S1, F1⟩ := hrel
    clear S0
    by_cases hb : a + 20 ≤ n
    · have hbz : (a : Int) + 20 ≤ (n : Int) := by omega
      have Q := QI.out d wr S1.out a (a + 20) (by omega) hb F1.out.inc
      rw [show ((a + 20 : Nat) : Int) = (a : Int) + 20 by omega] at Q
      have HQ := Lib.hid Q
      clear Q S1
      go_wp2_with fail
      refine HQ.out.mono ?_
      rintro e w2 ⟨rfl, d2, S2, M2, T2⟩
      have HS2 := Lib.hid S2
      have HF := Lib.hid (first_next F1.out M2 T2)
      clear HQ S2 M2 T2 F1
      go_wp2
      go_roundw
      case rel => exact ⟨a + 20, d2, by go_num, by go_num, hb, HS2, HF⟩
      case measure => simp [intOf]; omega
    · have hbz : ¬ (a : Int) + 20 ≤ (n : Int) := by omega
      have HQ := Lib.hid (QI.out d wr S1.out a n han (Nat.le_refl _) F1.out.inc)
      clear S1
      go_wp2_with fail
      refine HQ.out.mono ?_
      rintro e w2 ⟨rfl, d2, S2, M2, T2⟩
      have HS2 := Lib.hid S2
      have HB := Lib.hid (first_end F1.out han (by omega) M2 T2)
      clear HQ S2 M2 T2 F1 hb hbz han
      go_wp2_with fail
      go_loopw [6] (fun sv wr => ∃ (s : Nat) (d : Nat → Nat), sv = .int .i64 s ∧ 20 ≤ s ∧ s ≤ 200000 ∧ Hid (SW enc k w0 blk n d wr) ∧ Hid (Blk lt s n d)) (fun sv _ => n - (intOf sv).toNat)
      case atStart => exact ⟨20, d2, rfl, by omega, by omega, HS2, HB⟩
      case round =>
        obtain ⟨s, d3, rfl, hs1, hs2, S3, B3⟩ := hrel
        clear HS2 HB
        by_cases hsn : s < n
        · have HH := Lib.hid (half_start B3.out)
          clear B3
          obtain ⟨wo, rfl⟩ : ∃ wo, wo = wr := ⟨_, rfl⟩
          go_wp2_with fail
          go_loopw [7, 8] (fun av bv wr => ∃ (a : Nat) (d : Nat → Nat), av = .int .i64 a ∧ bv = .int .i64 ((a : Int) + 2 * (s : Int)) ∧ a ≤ n ∧ Hid (SW enc k w0 blk n d wr) ∧ Hid (Half lt s n a d)) (fun av _ _ => n - (intOf av).toNat)
          case atStart => exact ⟨0, d3, rfl, by congr 1; omega, Nat.zero_le _, S3, HH⟩
          case round =>
            obtain ⟨a', d4, rfl, rfl, han, S4, H4⟩ := hrel
            clear S3 HH
            by_cases hb : a' + 2 * s ≤ n
            · have hbz : (a' : Int) + 2 * (s : Int) ≤ (n : Int) := by omega
              obtain ⟨p1, p2⟩ := half_parts H4.out (by omega) hb
              have Q := QS.out a' (a' + s) (a' + 2 * s) d4 wr (by omega) (by omega) hb S4.out p1 p2
              rw [show ((a' + s : Nat) : Int) = (a' : Int) + (s : Int) by omega, show ((a' + 2 * s : Nat) : Int) = (a' : Int) + 2 * (s : Int) by omega] at Q
              have HQ := Lib.hid Q
              clear Q S4 p1 p2
              go_wp2_with fail
              refine HQ.out.mono ?_
              rintro e w5 ⟨rfl, d5, S5, M5, T5⟩
              have HS5 := Lib.hid S5
              have HH5 := Lib.hid (half_next H4.out (by omega) hb M5 T5)
              clear HQ S5 M5 T5 H4
              go_wp2
              go_roundw
              case rel => exact ⟨a' + 2 * s, d5, by go_num, by go_num, hb, HS5, HH5⟩
              case measure => simp [intOf]; omega
            · have hbz : ¬ (a' : Int) + 2 * (s : Int) ≤ (n : Int) := by omega
              by_cases hm : a' + s < n
              · have hmz : (a' : Int) + (s : Int) < (n : Int) := by omega
                obtain ⟨p1, p2⟩ := half_two H4.out hm (by omega)
                have Q := QS.out a' (a' + s) n d4 wr (by omega) (by omega) (Nat.le_refl _) S4.out p1 p2
                rw [show ((a' + s : Nat) : Int) = (a' : Int) + (s : Int) by omega] at Q
                have HQ := Lib.hid Q
                clear Q S4 p1 p2
                go_wp2_with fail
                refine HQ.out.mono ?_
                rintro e w5 ⟨rfl, d5, S5, M5, T5⟩
                have HS5 := Lib.hid S5
                have HB5 := Lib.hid (half_end1 H4.out hm (by omega) M5 T5)
                clear HQ S5 M5 T5 H4
                go_wp2
                go_roundw
                case rel => exact ⟨2 * s, d5, by first | (congr 1; omega) | go_num, by omega, by omega, HS5, HB5⟩
                case measure => simp [intOf]; omega
              · have hmz : ¬ (a' : Int) + (s : Int) < (n : Int) := by omega
                have HB5 := Lib.hid (half_end2 H4.out (by omega) han (by omega))
                clear H4
                go_wp2
                go_roundw
                case rel => exact ⟨2 * s, d4, by first | (congr 1; omega) | go_num, by omega, by omega, S4, HB5⟩
                case measure => simp [intOf]; omega
        · have HF := Lib.hid (blk_all B3.out (by omega) hn0)
          go_wp2
          go_end0
          exact ⟨rfl, d3, S3.out, HF.out⟩
end Go.Proofs.Ytedllchlhdjanaa

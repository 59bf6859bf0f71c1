/-
  middle.Best at votes: the first of the orders that are nearest to all votes, and how far it is; the error of tally.Check else; nothing that was there is written.
-/
import Derived.Test.YthcaipnlgbnfkaaCMSum
import Derived.Test.YthcaipnlgbnfkaaCTCheck
import Derived.Test.YthcaipnlgbnfkaaCAll
import Derived.Test.YthcaipnlgbnfkaaBestAt0
namespace Go.Proofs.Ythcaipnlgbnfkaa
open Go.RowKit Fm
set_option linter.unusedVariables false

set_option maxHeartbeats 1000000 in
set_option maxRecDepth 100000 in
theorem mBestE : MBestE := by
  intro n a m c V w hT hv
  obtain ⟨B, hB, hr, hm, _⟩ := hT
  have QT := Lib.hid (tcheck_any n a m c V w B hB hr hm)
  clear hr hm hB
  generalize vchk n V = r at *
  have hne : (r != 0) = true := by simpa using hv
  clear hv
  go_enter Try.func38, Try.ntmps38
  go_wp2_with fail
  refine QT.out.mono ?_
  rintro e w1 ⟨rfl, hb1⟩
  go_wp2
  go_ret3
  exact ⟨none, 0, rfl, hb1⟩

set_option maxHeartbeats 2000000 in
set_option maxRecDepth 100000 in
theorem mBestO (n : Nat) (a : Option Addr) (m c : Nat) (V : List (List Int)) (w : World) (hT : TabIn w a m V) (hv : vchk n V = 0) :
    Calls Try.prog 38 #[.int .i64 n, .slice a m c] w (OwnOut3 (bestL n V) (leastN n V) w) := by
  obtain ⟨B, hB, hr, hm, _⟩ := hT
  have QT := Lib.hid (tcheck_any n a m c V w B hB hr hm)
  rw [hv] at QT
  obtain rfl := hr.1
  have HR := Lib.hid (hr.more hB)
  have HV := Lib.hid (vperm hv)
  have h1 : 1 ≤ n := by have := (vchk_zero hv).1; omega
  have h6 : n ≤ 6 := by have := (vchk_zero hv).1; omega
  have h30 := (vchk_zero hv).2.1
  have HEND : Hid (bestL n V = (nearTo V (allO n) (allO n).length).1 ∧ leastN n V = (nearTo V (allO n) (allO n).length).2) := ⟨rfl, rfl⟩
  have hlp := allO_pos h1 h6
  have hl7 := allO_le h1 h6
  have HALL : Hid (∀ l ∈ allO n, l.Perm (sides n)) := fun l hl => mem_allO.1 hl
  have hbl0 : (bestL n V).length = n := by
    obtain ⟨hbp, _, _⟩ := best_all h1 h6 V
    have := hbp.length_eq
    rwa [sides_len] at this
  obtain ⟨bl, hbl⟩ : ∃ bl, bestL n V = bl := ⟨_, rfl⟩
  obtain ⟨ln, hln⟩ : ∃ ln, leastN n V = ln := ⟨_, rfl⟩
  have HPOST : Hid (∀ e w', (∃ v, e = .returned (.tuple #[v, .int .i64 ln, .int .i64 0]) ∧ w'.ownsRow w.heap.size 3 1 v n (I bl) ∧ Below w.heap.size w w') → OwnOut3 (bestL n V) (leastN n V) w e w') := fun e w' h => by unfold OwnOut3; rw [hbl0, hbl, hln]; exact h
  rw [hbl, hln] at HEND
  have QA : Hid (∀ W, Calls Try.prog 34 #[.int .i64 n] W (AllOut n W)) := fun W => all_any n W h1 h6
  unfold AllOut at QA
  clear hr hbl hln hbl0 hv hB hm
  go_enter Try.func38, Try.ntmps38
  go_wp2_with fail
  refine QT.out.mono ?_
  rintro e w1 ⟨rfl, hb1⟩
  clear QT
  go_wp2_with fail
  refine (QA.out w1).mono ?_
  rintro e w2 ⟨v2, vs, rfl, o2, el, hb2⟩
  obtain ⟨g2, c2, rfl, _, _⟩ := o2.form hlp
  have hb02 := ext_trans hb1 hb2
  have O2 := Lib.hid (own_mono o2 hb1.size)
  have EL := Lib.hid (el.mono hb1.size)
  have HB02 := Lib.hid hb02
  clear QA hb1 hb2 hb02 o2 el
  generalize allO n = L at *
  go_wp2_with fail
  go_loopw [10, 11, 32] (fun bv lv iv wr => ∃ k : Nat, k ≤ L.length ∧ iv = .int .i64 k ∧ BestAt w.heap.size n V L w2 k bv lv ∧ Below w2.heap.size w2 wr) (fun _ _ iv _ => L.length - (intOf iv).toNat)
  case atStart => exact ⟨0, Nat.zero_le _, rfl, ⟨fun _ => ⟨rfl, rfl⟩, fun h => absurd h (by omega)⟩, Below.refl _ w2⟩
  case round =>
    obtain ⟨k, hk, rfl, hat, hbel⟩ := hrel
    by_cases hkL : k < L.length
    · obtain ⟨u, hu, hou⟩ := EL.out.at_ hkL
      have hperm := HALL.out _ (memR hkL)
      have hql : (L.getD k []).length = n := by have := hperm.length_eq; rwa [sides_len] at this
      rw [hql] at hou
      obtain ⟨gu, cu, rfl, _, _, hnc, _, _⟩ := own_form hou (by omega)
      have hlt2 : g2 < w2.heap.size := (O2.out.lt g2 rfl).2
      have hck : wr.cell? ⟨g2, k, none⟩ = some (.slice (some ⟨gu, 0, none⟩) n cu) := by
        rw [hbel.cell (by exact hlt2), O2.out.cellAt k (by omega)]
        exact hu
      have HS : Hid (nearTo V L (k + 1) = if k = 0 ∨ (farT V (L.getD k []) : Int) < (nearTo V L k).2 then (L.getD k [], (farT V (L.getD k []) : Int)) else nearTo V L k) := by show _ = _; rw [nearTo]
      have hfb := farT_le h6 V hql
      have hnb := near_bd V L (36 * V.length) (fun l hl => farT_le h6 V (by have := (HALL.out l hl).length_eq; rwa [sides_len] at this)) k hk
      have QF := Lib.hid (sumD_any h1 h6 HV.out h30 hperm a (some ⟨gu, 0, none⟩) c cu wr (rdr_ext (rdr_ext HR.out HB02.out) hbel) (rd_ext (Rd.of_own hou) hbel) hnc)
      have HOU := Lib.hid hou
      clear hu hperm hql hou
      generalize L.getD k [] = q at *
      generalize farT V q = ft at *
      go_wp2_with fail
      refine QF.out.mono ?_
      rintro e w3 ⟨rfl, hb3⟩
      have hb23 := ext_trans hbel hb3
      clear QF hb3 hbel hck
      by_cases hk0 : k = 0
      · obtain ⟨rfl, rfl⟩ := hat.1 hk0
        have hnil := nil_nilB w3
        rw [if_pos (.inl hk0)] at HS
        have HAT : Hid (BestAt w.heap.size n V L w2 (k + 1) (.slice (some ⟨gu, 0, none⟩) n cu) (.int .i64 ft)) := ⟨fun h => by omega, fun _ => ⟨gu, cu, rfl, by rw [HS.out], by rw [HS.out]; exact HOU.out⟩⟩
        clear hat hk0 HS
        go_wp2
        go_roundw
        case rel => exact ⟨k + 1, by omega, by go_num, HAT.out, hb23⟩
        case measure => simp [intOf]; omega
      · obtain ⟨gb, cb, rfl, rfl, hob⟩ := hat.2 (by omega)
        have hnil := some_nilB ⟨gb, 0, none⟩ n cb w3
        by_cases hlt : (ft : Int) < (nearTo V L k).2
        · rw [if_pos (.inr hlt)] at HS
          have HAT : Hid (BestAt w.heap.size n V L w2 (k + 1) (.slice (some ⟨gu, 0, none⟩) n cu) (.int .i64 ft)) := ⟨fun h => by omega, fun _ => ⟨gu, cu, rfl, by rw [HS.out], by rw [HS.out]; exact HOU.out⟩⟩
          clear hat hk0 HS hob
          generalize (nearTo V L k).2 = nk at *
          go_wp2
          go_roundw
          case rel => exact ⟨k + 1, by omega, by go_num, HAT.out, hb23⟩
          case measure => simp [intOf]; omega
        · rw [if_neg (fun h => by rcases h with h | h; exact hk0 h; exact hlt h)] at HS
          have HAT : Hid (BestAt w.heap.size n V L w2 (k + 1) (.slice (some ⟨gb, 0, none⟩) n cb) (.int .i64 (nearTo V L k).2)) := ⟨fun h => by omega, fun _ => ⟨gb, cb, rfl, by rw [HS.out], by rw [HS.out]; exact hob⟩⟩
          clear hat hk0 HS hob
          generalize (nearTo V L k).2 = nk at *
          go_wp2
          go_roundw
          case rel => exact ⟨k + 1, by omega, by go_num, HAT.out, hb23⟩
          case measure => simp [intOf]; omega
    · obtain rfl : k = L.length := by omega
      obtain ⟨gb, cb, rfl, rfl, hob⟩ := hat.2 hlp
      rw [← HEND.out.1] at hob
      rw [← HEND.out.2]
      have hoe := own_below hob hbel (Nat.le_refl _)
      have hbe := ext_trans HB02.out hbel
      clear hat hob hbel
      go_wp2
      go_ret3
      exact HPOST.out _ _ ⟨_, rfl, hoe, hbe⟩

theorem mBest : MBest := fun n a m c V w hT hv => (mBestO n a m c V w hT hv).mono fun e w' h => h.ints
end Go.Proofs.Ythcaipnlgbnfkaa

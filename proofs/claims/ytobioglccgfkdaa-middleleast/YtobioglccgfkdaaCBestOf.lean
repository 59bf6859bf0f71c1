/-
  plumeref.BestOf at votes: what it returns; nothing that was there is written.
-/
import Derived.Test.YtobioglccgfkdaaCFarOf
import Derived.Test.YtobioglccgfkdaaMidP
namespace Go.Proofs.Ytobioglccgfkdaa
open Go.RowKit Fm
set_option linter.unusedVariables false

set_option maxRecDepth 100000 in
theorem nil_nilB (w : World) : Sem.run Try.prog (binOp BinOp.eql 23 (.slice none 0 0) (.slice none 0 0)) w = .ok (.bool true) w := rfl
set_option maxRecDepth 100000 in
theorem some_nilB (x : Addr) (n c : Nat) (w : World) : Sem.run Try.prog (binOp BinOp.eql 23 (.slice (some x) n c) (.slice none 0 0)) w = .ok (.bool false) w := rfl

/-- What is best so far. -/
def BestAt (B n : Nat) (V L : List (List Int)) (w : World) (k : Nat) (bv lv : Value) : Prop :=
  (k = 0 → bv = .slice none 0 0 ∧ lv = .int .i64 0) ∧ (0 < k → ∃ g c, bv = .slice (some ⟨g, 0, none⟩) n c ∧ lv = .int .i64 (nearTo V L k).2 ∧ w.ownsRow B 3 1 (.slice (some ⟨g, 0, none⟩) n c) n (I (nearTo V L k).1))
/-- What BestOf leaves. -/
def BestOut (n : Nat) (V : List (List Int)) (w : World) (e : Ending) (w' : World) : Prop :=
  ∃ v, e = .returned (.tuple #[v, .int .i64 (leastN n V)]) ∧ w'.ownsRow w.heap.size 3 1 v n (I (bestL n V)) ∧ Below w.heap.size w w'

set_option maxHeartbeats 2000000 in
set_option maxRecDepth 100000 in
theorem bestOf_any {n : Nat} (h1 : 1 ≤ n) (h6 : n ≤ 6) {V : List (List Int)} (hV : ∀ q ∈ V, q.Perm (sides n)) (h30 : V.length ≤ 30) (a : Option Addr) (c : Nat) (w : World) (hr : RdR w w.heap.size a V.length V) :
    Calls Try.prog 10 #[.int .i64 n, .slice a V.length c] w (BestOut n V w) := by
  have HR := Lib.hid hr
  have HV := Lib.hid hV
  have HEND : Hid (bestL n V = (nearTo V (allO n) (allO n).length).1 ∧ leastN n V = (nearTo V (allO n) (allO n).length).2) := ⟨rfl, rfl⟩
  have hlp := allO_pos h1 h6
  have hl7 := allO_le h1 h6
  have HALL : Hid (∀ l ∈ allO n, l.Perm (sides n)) := fun l hl => mem_allO.1 hl
  have HPE : Hid (perms n (sides n) = allO n) := rfl
  obtain ⟨bl, hbl⟩ : ∃ bl, bestL n V = bl := ⟨_, rfl⟩
  obtain ⟨ln, hln⟩ : ∃ ln, leastN n V = ln := ⟨_, rfl⟩
  have HPOST : Hid (∀ e w', (∃ v, e = .returned (.tuple #[v, .int .i64 ln]) ∧ w'.ownsRow w.heap.size 3 1 v n (I bl) ∧ Below w.heap.size w w') → BestOut n V w e w') := fun e w' h => by unfold BestOut; rw [hbl, hln]; exact h
  rw [hbl, hln] at HEND
  clear hr hV hbl hln
  go_enter Try.func10, Try.ntmps10
  go_wp2_with fail
  refine (sides_any n w (by omega)).mono ?_
  rintro e w1 ⟨v1, rfl, o1, hb1⟩
  obtain ⟨a1, c1, rfl, hc1, hc1m⟩ := own_slice o1
  have QA := Lib.hid (allOrders_any n h6 (sides n) a1 c1 w1 w1.heap.size (sides_len n) (Nat.le_refl _) hc1 hc1m (Rd.of_own o1))
  clear o1
  go_wp2_with fail
  refine QA.out.mono ?_
  rintro e w2 ⟨v2, vs, rfl, o2, el, hb2⟩
  rw [HPE.out] at o2 el
  obtain ⟨g2, c2, rfl, _, _⟩ := o2.form hlp
  have hb02 := ext_trans hb1 hb2
  have O2 := Lib.hid (own_mono o2 hb1.size)
  have EL := Lib.hid (el.mono hb1.size)
  have HB02 := Lib.hid hb02
  clear QA hb1 hb2 hb02 o2 el HPE
  generalize allO n = L at *
  go_wp2_with fail
  go_loopw [6, 7, 15] (fun bv lv iv wr => ∃ k : Nat, k ≤ L.length ∧ iv = .int .i64 k ∧ BestAt w.heap.size n V L w2 k bv lv ∧ Below w2.heap.size w2 wr) (fun _ _ iv _ => L.length - (intOf iv).toNat)
  case atStart => exact ⟨0, Nat.zero_le _, rfl, ⟨fun _ => ⟨rfl, rfl⟩, fun h => absurd h (by omega)⟩, Below.refl _ w2⟩
  case round =>
    obtain ⟨k, hk, rfl, hat, hbel⟩ := hrel
    by_cases hkL : k < L.length
    · obtain ⟨u, hu, hou⟩ := EL.out.at_ hkL
      have hperm := HALL.out _ (memR hkL)
      have hql : (L.getD k []).length = n := by have := hperm.length_eq; rwa [sides_len] at this
      rw [hql] at hou
      obtain ⟨gu, cu, rfl, _, _, _, _, _⟩ := own_form hou (by omega)
      have hlt2 : g2 < w2.heap.size := (O2.out.lt g2 rfl).2
      have hck : wr.cell? ⟨g2, k, none⟩ = some (.slice (some ⟨gu, 0, none⟩) n cu) := by
        rw [hbel.cell (by exact hlt2), O2.out.cellAt k (by omega)]
        exact hu
      have HS : Hid (nearTo V L (k + 1) = if k = 0 ∨ (farT V (L.getD k []) : Int) < (nearTo V L k).2 then (L.getD k [], (farT V (L.getD k []) : Int)) else nearTo V L k) := by show _ = _; rw [nearTo]
      have hfb := farT_le h6 V hql
      have hnb := near_bd V L (36 * V.length) (fun l hl => farT_le h6 V (by have := (HALL.out l hl).length_eq; rwa [sides_len] at this)) k hk
      have QF := Lib.hid (farOf_any h1 h6 HV.out h30 hperm a (some ⟨gu, 0, none⟩) c cu wr (rdr_ext (rdr_ext HR.out HB02.out) hbel) (rd_ext (Rd.of_own hou) hbel))
      have HOU := Lib.hid hou
      clear hu hperm hql hou
      generalize L.getD k [] = q at *
      generalize farT V q = ft at *
      go_wp2_with fail
      refine QF.out.mono ?_
      rintro e w3 ⟨rfl, hb3⟩
      have hb23 := ext_trans hbel hb3
      clear QF hb3 hbel hck
      by_cases hk0 : k = 0
      · obtain ⟨rfl, rfl⟩ := hat.1 hk0
        have hnil := nil_nilB w3
        rw [if_pos (.inl hk0)] at HS
        have HAT : Hid (BestAt w.heap.size n V L w2 (k + 1) (.slice (some ⟨gu, 0, none⟩) n cu) (.int .i64 ft)) := ⟨fun h => by omega, fun _ => ⟨gu, cu, rfl, by rw [HS.out], by rw [HS.out]; exact HOU.out⟩⟩
        clear hat hk0 HS
        go_wp2
        go_roundw
        case rel => exact ⟨k + 1, by omega, by go_num, HAT.out, hb23⟩
        case measure => simp [intOf]; omega
      · obtain ⟨gb, cb, rfl, rfl, hob⟩ := hat.2 (by omega)
        have hnil := some_nilB ⟨gb, 0, none⟩ n cb w3
        by_cases hlt : (ft : Int) < (nearTo V L k).2
        · rw [if_pos (.inr hlt)] at HS
          have HAT : Hid (BestAt w.heap.size n V L w2 (k + 1) (.slice (some ⟨gu, 0, none⟩) n cu) (.int .i64 ft)) := ⟨fun h => by omega, fun _ => ⟨gu, cu, rfl, by rw [HS.out], by rw [HS.out]; exact HOU.out⟩⟩
          clear hat hk0 HS hob
          generalize (nearTo V L k).2 = nk at *
          go_wp2
          go_roundw
          case rel => exact ⟨k + 1, by omega, by go_num, HAT.out, hb23⟩
          case measure => simp [intOf]; omega
        · rw [if_neg (fun h => by rcases h with h | h; exact hk0 h; exact hlt h)] at HS
          have HAT : Hid (BestAt w.heap.size n V L w2 (k + 1) (.slice (some ⟨gb, 0, none⟩) n cb) (.int .i64 (nearTo V L k).2)) := ⟨fun h => by omega, fun _ => ⟨gb, cb, rfl, by rw [HS.out], by rw [HS.out]; exact hob⟩⟩
          clear hat hk0 HS hob
          generalize (nearTo V L k).2 = nk at *
          go_wp2
          go_roundw
          case rel => exact ⟨k + 1, by omega, by go_num, HAT.out, hb23⟩
          case measure => simp [intOf]; omega
    · obtain rfl : k = L.length := by omega
      obtain ⟨gb, cb, rfl, rfl, hob⟩ := hat.2 hlp
      rw [← HEND.out.1] at hob
      rw [← HEND.out.2]
      have hoe := own_below hob hbel (Nat.le_refl _)
      have hbe := ext_trans HB02.out hbel
      clear hat hob hbel
      go_wp2
      go_ret2
      exact HPOST.out _ _ ⟨_, rfl, hoe, hbe⟩
end Go.Proofs.Ytobioglccgfkdaa

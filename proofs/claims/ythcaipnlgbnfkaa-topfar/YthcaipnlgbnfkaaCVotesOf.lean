/-
  plumekeep.VotesOf: what it returns; nothing that was there is written.
-/
import Derived.Test.YthcaipnlgbnfkaaCOrderOf
import Derived.Test.YthcaipnlgbnfkaaPushS
import Derived.Test.YthcaipnlgbnfkaaPureA
import Derived.WalkKit
import Derived.KernelRfl
import Derived.Laws.NewBlocks
namespace Go.Proofs.Ythcaipnlgbnfkaa
open Go.RowKit Fm
set_option linter.unusedVariables false

/-- What plumekeep.VotesOf leaves. -/
def VotesOut (n : Nat) (L : List (List Int)) (w : World) (e : Ending) (w' : World) : Prop :=
  ∃ v vs, e = .returned v ∧ w'.ownsRow w.heap.size 22 1 v (votesOf n L).length vs ∧ Elems w' w.heap.size 3 vs (votesOf n L) ∧ Below w.heap.size w w'

set_option maxHeartbeats 1000000 in
set_option maxRecDepth 100000 in
theorem votesOf_any (n : Nat) (a : Option Addr) (m c : Nat) (L : List (List Int)) (w : World) (hr : RdR w w.heap.size a m L) (hmc : m ≤ c) (hcm : c ≤ maxLen) (h1 : 1 ≤ n) (h6 : n ≤ 6) (hwf : ∀ l ∈ L, ∀ x ∈ l, Ok64 x) :
    Calls Try.prog 44 #[.int .i64 n, .slice a m c] w (VotesOut n L w) := by
  have HR := Lib.hid hr
  have HL := Lib.hid hr.1
  have HW := Lib.hid hwf
  clear hr hwf
  unfold maxLen at hcm
  obtain ⟨H, hH⟩ : ∃ H : Nat, H = min m 30 := ⟨_, rfl⟩
  have hH30 : H ≤ 30 := by omega
  have hHm : H ≤ m := by omega
  have hmin : min (m : Int) 30 = (H : Int) := by omega
  have b1 : (0 : Int) ≤ (H : Int) := by omega
  have b2 : (H : Int) ≤ (c : Int) := by omega
  have HHH := Lib.hid hH
  clear hH
  go_enter Try.func44, Try.ntmps44
  go_wp2_with fail
  clear hmin
  go_loopw [5, 14] (fun s5 s14 wr => ∃ (k : Nat) (vs : List Value), k ≤ H ∧ s14 = .int .i64 k ∧ wr.ownsRow w.heap.size 22 1 s5 k vs ∧ Elems wr w.heap.size 3 vs ((L.take k).map (ordOf n)) ∧ Below w.heap.size w wr) (fun _ s14 _ => H - (intOf s14).toNat)
  case atStart => exact ⟨0, [], Nat.zero_le _, rfl, World.ownsRow_nil _ _ _ _, Elems.nil_, Below.refl _ _⟩
  case round =>
    obtain ⟨k, vs, hk, rfl, hv, hel, hbel⟩ := hrel
    have hz := hbel.size
    by_cases hlt : k < H
    · obtain ⟨b, o, a', c', rfl, hb, hcell, _, _, _, hrd⟩ := HR.out.at_ (show k < m by omega)
      have hck : wr.cell? ⟨b, o + k, none⟩ = some (.slice a' (L.getD k []).length c') := (hbel.cell hb).trans hcell
      have hkl : k < L.length := by rw [HL.out]; omega
      have hmem : L.getD k [] ∈ L := by rw [List.getD_eq_getElem?_getD, List.getElem?_eq_getElem hkl]; exact List.getElem_mem hkl
      have HB := Lib.hid (HW.out _ hmem)
      have RD := Lib.hid (hrd.below hbel (Nat.le_refl _))
      have hsn : (L.take (k + 1)).map (ordOf n) = (L.take k).map (ordOf n) ++ [ordOf n (L.getD k [])] := by
        rw [List.take_succ_eq_append_getElem hkl, List.map_append, List.getD_eq_getElem?_getD, List.getElem?_eq_getElem hkl]; rfl
      have HSN := Lib.hid hsn
      clear hsn hcell hrd hmem
      generalize L.getD k [] = l at *
      generalize (L.take k).map (ordOf n) = T at *
      go_wp2_with fail
      refine (orderOf_any n a' l.length c' l wr w.heap.size hz RD.out h1 h6 HB.out).mono ?_
      rintro e w1 ⟨v1, rfl, o1, hb1⟩
      obtain ⟨a1, c1, rfl, _, _⟩ := own_slice o1
      have z1 := hb1.size
      have hv1 := own_below hv hb1 (Nat.le_refl _)
      have hel1 := hel.below hb1 (Nat.le_refl _)
      have hbl1 := hbel.trans (hb1.mono hz)
      clear hv hel hbel hb1 hck
      go_wp2_with (at_builtin; refine pushS rfl _ _ rfl w1 w.heap.size _ k vs a1 n c1 rfl rfl (by exact hv1) (by omega) (by omega) ?_)
      intro g cap w2 hv2 hg2 hg3 hg4
      have hkind : ∀ y, Value.ownBlock _ = some y → y < w.heap.size ∨ ∃ c t, w1.heap[y]? = some (.cells c t (0, 0)) ∧ t ≠ 3 := fun y hy => by
        obtain ⟨c, hc⟩ := own_kind hv1 hy
        exact .inr ⟨c, _, hc, by decide⟩
      have hel2 := hel1.kept hg2 hkind
      have o2 := o1.kept hg2 (own_far hv1 o1 (by decide))
      have hbl2 := hbl1.grown hg2 (by omega) (fun y hy => (hv1.lt _ hy).1)
      have hel3 := hel2.snoc (l := ordOf n l) (by rw [ordOf_len]; exact own_mono o2 hz)
      clear hkind hel1 hv1 hbl1 o1 o2 hel2 hg2 hg3
      go_wp2
      go_roundw
      case rel => exact ⟨k + 1, _, by omega, by go_num, hv2, by rw [HSN.out]; exact hel3, hbl2⟩
      case measure => simp [intOf]; omega
    · obtain rfl : k = H := by omega
      have e1 : (L.take k).map (ordOf n) = votesOf n L := by
        unfold votesOf
        rw [HHH.out]
        have hL := HL.out
        rcases Nat.le_total m 30 with h | h
        · rw [Nat.min_eq_left h, List.take_of_length_le (by omega), List.take_of_length_le (by omega)]
        · rw [Nat.min_eq_right h]
      have e2 : (votesOf n L).length = k := by rw [votesOf_len, HL.out]; exact HHH.out.symm
      rw [e1] at hel
      have E2 := Lib.hid e2
      clear e1 e2
      go_wp2
      go_ret
      exact ⟨_, vs, rfl, by rw [E2.out]; exact hv, hel, hbel⟩
theorem VotesOut.use {n : Nat} {L : List (List Int)} {w w' : World} {e : Ending} (h : VotesOut n L w e w') : ∃ a c, e = .returned (.slice a (votesOf n L).length c) ∧ (votesOf n L).length ≤ c ∧ c ≤ maxLen ∧ RdR w' w'.heap.size a (votesOf n L).length (votesOf n L) ∧ Below w.heap.size w w' := by
  obtain ⟨v, vs, rfl, ho, he, hb⟩ := h
  obtain ⟨a, c, rfl, h1, h2⟩ : ∃ a c, v = .slice a (votesOf n L).length c ∧ (votesOf n L).length ≤ c ∧ c ≤ maxLen := by
    rcases ho.2 with ⟨hv, hn⟩ | ⟨g, cap, cur, rfl, _, _, h1, h2, _⟩
    · exact ⟨none, 0, by rw [hv, hn], by omega, by unfold maxLen; omega⟩
    · exact ⟨_, cap, rfl, h1, h2⟩
  exact ⟨a, c, rfl, h1, h2, RdR.of_own ho rfl he, hb⟩
end Go.Proofs.Ythcaipnlgbnfkaa

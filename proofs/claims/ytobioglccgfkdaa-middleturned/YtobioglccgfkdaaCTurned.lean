/-
  plumekeep.turned, plumekeep.renamed at votes: what they return; nothing that was there is written.
-/
import Derived.Test.YtobioglccgfkdaaCClone
import Derived.Test.YtobioglccgfkdaaCReverse
import Derived.Test.YtobioglccgfkdaaPushS
import Derived.Test.YtobioglccgfkdaaPush
import Derived.Test.YtobioglccgfkdaaPureA
import Derived.WalkKit
import Derived.KernelRfl
import Derived.Laws.NewBlocks
namespace Go.Proofs.Ytobioglccgfkdaa
open Go.RowKit Fm
set_option linter.unusedVariables false

/-- A call that leaves rows of its own that read as L. -/
def RowsOut (L : List (List Int)) (w : World) (e : Ending) (w' : World) : Prop :=
  ∃ v vs, e = .returned v ∧ w'.ownsRow w.heap.size 23 1 v L.length vs ∧ Elems w' w.heap.size 3 vs L ∧ Below w.heap.size w w'

theorem map_take_succ (f : List Int → List Int) (V : List (List Int)) {k : Nat} (h : k < V.length) : (V.take (k + 1)).map f = (V.take k).map f ++ [f (V.getD k [])] := by
  rw [List.take_succ_eq_append_getElem h, List.map_append, List.getD_eq_getElem?_getD, List.getElem?_eq_getElem h]; rfl
theorem getD_memR (V : List (List Int)) {k : Nat} (h : k < V.length) : V.getD k [] ∈ V := by rw [List.getD_eq_getElem?_getD, List.getElem?_eq_getElem h]; exact List.getElem_mem h

set_option maxHeartbeats 1000000 in
set_option maxRecDepth 100000 in
theorem turned_any (a : Option Addr) (c : Nat) (V : List (List Int)) (w : World) (B : Nat) (hB : B ≤ w.heap.size) (hr : RdR w B a V.length V) (hV : V.length ≤ 1000) (hp : ∀ p ∈ V, 1 ≤ p.length ∧ p.length ≤ 1000) :
    Calls Try.prog 24 #[.slice a V.length c] w (RowsOut (V.map List.reverse) w) := by
  have HR := Lib.hid hr
  have HP := Lib.hid hp
  clear hr hp
  go_enter Try.func24, Try.ntmps24
  go_wp2_with fail
  go_loopw [3, 9] (fun s3 s9 wr => ∃ (k : Nat) (vs : List Value), k ≤ V.length ∧ s9 = .int .i64 k ∧ wr.ownsRow w.heap.size 23 1 s3 k vs ∧ Elems wr w.heap.size 3 vs ((V.take k).map List.reverse) ∧ Below w.heap.size w wr) (fun _ s9 _ => V.length - (intOf s9).toNat)
  case atStart => exact ⟨0, [], Nat.zero_le _, rfl, World.ownsRow_nil _ _ _ _, Elems.nil_, Below.refl _ _⟩
  case round =>
    obtain ⟨k, vs, hk, rfl, hv, hel, hbel⟩ := hrel
    have hz := hbel.size
    by_cases hlt : k < V.length
    · obtain ⟨b, o, a', c', rfl, hb, hcell, _, _, _, hrd⟩ := HR.out.at_ hlt
      have hck : wr.cell? ⟨b, o + k, none⟩ = some (.slice a' (V.getD k []).length c') := (hbel.cell (by show b < _; omega)).trans hcell
      have hpl := HP.out _ (getD_memR V hlt)
      have RD := Lib.hid (hrd.below hbel hB)
      have HSN := Lib.hid (map_take_succ List.reverse V hlt)
      clear hcell hrd
      generalize V.getD k [] = l at *
      generalize (V.take k).map List.reverse = T at *
      go_wp2_with fail
      refine (clone_any l a' l.length c' wr B RD.out (by omega)).mono ?_
      rintro e w1 ⟨v1, rfl, o1, hb1⟩
      obtain ⟨g1, cap1, rfl, hg1, hg1', _, _, _⟩ := own_form o1 (by omega)
      have z1 := hb1.size
      have hv1 := own_below hv hb1 (Nat.le_refl _)
      have hel1 := hel.below hb1 (Nat.le_refl _)
      have hbl1 := hbel.trans (hb1.mono hz)
      have hvlt : ∀ y, Value.ownBlock _ = some y → y < wr.heap.size := fun y hy => (hv.lt y hy).2
      have hellt : ∀ (j : Nat) (v : Value) (y : Nat), vs[j]? = some v → v.ownBlock = some y → y < wr.heap.size := fun j v y hj hy => ((hel.2 j v hj).lt y hy).2
      clear hv hel hbel hb1 hck
      go_wp2_with fail
      refine (reverse_own wr.heap.size g1 l.length cap1 l w1 o1 (by omega)).mono ?_
      rintro e w2 ⟨rfl, o2, gr2⟩
      have z2 := gr2.size
      have hv2 := hv1.kept gr2 (.inr (fun he => by have := hvlt g1 he; omega))
      have hel2 : Elems w2 w.heap.size 3 vs T := ⟨hel1.1, fun j v hj => (hel1.2 j v hj).kept gr2 (.inr (fun he => by have := hellt j v g1 hj he; omega))⟩
      have hbl2 := hbl1.grown gr2 (by omega) (fun y hy => by injection hy with hy; omega)
      clear hv1 hel1 hbl1 o1 gr2 hvlt hellt
      go_wp2_with (at_builtin; refine pushS rfl _ _ rfl w2 w.heap.size _ k vs (some ⟨g1, 0, none⟩) l.length cap1 rfl rfl (by exact hv2) (by omega) (by omega) ?_)
      intro g cap w3 hv3 hg3 hg4 hg5
      have hkind : ∀ y, Value.ownBlock _ = some y → y < w.heap.size ∨ ∃ c t, w2.heap[y]? = some (.cells c t (0, 0)) ∧ t ≠ 3 := fun y hy => by
        obtain ⟨c, hc⟩ := own_kind hv2 hy
        exact .inr ⟨c, _, hc, by decide⟩
      have hel3 := hel2.kept hg3 hkind
      have o3 := o2.kept hg3 (own_far hv2 o2 (by decide))
      have hbl3 := hbl2.grown hg3 (by omega) (fun y hy => (hv2.lt _ hy).1)
      have hel4 := hel3.snoc (l := l.reverse) (by rw [List.length_reverse]; exact own_mono o3 hz)
      clear hkind hel2 hv2 hbl2 o2 o3 hel3 hg3 hg4
      go_wp2
      go_roundw
      case rel => exact ⟨k + 1, _, by omega, by go_num, hv3, by rw [HSN.out]; exact hel4, hbl3⟩
      case measure => simp [intOf]; omega
    · obtain rfl : k = V.length := by omega
      rw [List.take_of_length_le (Nat.le_refl _)] at hel
      have e2 : (V.map List.reverse).length = V.length := by simp
      have E2 := Lib.hid e2
      clear e2
      go_wp2
      go_ret
      exact ⟨_, vs, rfl, by rw [E2.out]; exact hv, hel, hbel⟩
end Go.Proofs.Ytobioglccgfkdaa

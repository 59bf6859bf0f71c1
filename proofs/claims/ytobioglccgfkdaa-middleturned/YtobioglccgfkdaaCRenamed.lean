/-
  plumekeep.renamed at votes: what it returns; nothing that was there is written.
-/
import Derived.Test.YtobioglccgfkdaaCTurned
import Derived.Test.YtobioglccgfkdaaPureA
namespace Go.Proofs.Ytobioglccgfkdaa
open Go.RowKit Fm
set_option linter.unusedVariables false

/-- One vote by other names. -/
def renL (names p : List Int) : List Int := p.map fun x => names.getD x.toNat 0

set_option maxHeartbeats 1000000 in
set_option maxRecDepth 100000 in
theorem renamed_any (a a2 : Option Addr) (c m c2 : Nat) (V : List (List Int)) (names : List Int) (w : World) (B : Nat) (hB : B ≤ w.heap.size) (hr : RdR w B a V.length V) (hr2 : Rd w B a2 m names) (hV : V.length ≤ 1000) (hm : m ≤ 1000)
    (hp : ∀ p ∈ V, 1 ≤ p.length ∧ p.length ≤ 1000 ∧ ∀ x ∈ p, 0 ≤ x ∧ x < m) :
    Calls Try.prog 25 #[.slice a V.length c, .slice a2 m c2] w (RowsOut (V.map (renL names)) w) := by
  have HR := Lib.hid hr
  have HR2 := Lib.hid hr2
  have HP := Lib.hid hp
  clear hr hp hr2
  go_enter Try.func25, Try.ntmps25
  go_wp2_with fail
  go_loopw [5, 13] (fun s5 s13 wr => ∃ (k : Nat) (vs : List Value), k ≤ V.length ∧ s13 = .int .i64 k ∧ wr.ownsRow w.heap.size 23 1 s5 k vs ∧ Elems wr w.heap.size 3 vs ((V.take k).map (renL names)) ∧ Below w.heap.size w wr) (fun _ s13 _ => V.length - (intOf s13).toNat)
  case atStart => exact ⟨0, [], Nat.zero_le _, rfl, World.ownsRow_nil _ _ _ _, Elems.nil_, Below.refl _ _⟩
  case round =>
    obtain ⟨k, vs, hk, rfl, hv, hel, hbel⟩ := hrel
    have hz := hbel.size
    by_cases hlt : k < V.length
    · obtain ⟨b, o, a', c', rfl, hb, hcell, _, _, _, hrd⟩ := HR.out.at_ hlt
      have hck : wr.cell? ⟨b, o + k, none⟩ = some (.slice a' (V.getD k []).length c') := (hbel.cell (by show b < _; omega)).trans hcell
      obtain ⟨hp1, hp2, hp3⟩ := HP.out _ (getD_memR V hlt)
      have HP3 := Lib.hid hp3
      have RD := Lib.hid (hrd.below hbel hB)
      have RN := Lib.hid (HR2.out.below hbel hB)
      have HSN := Lib.hid (map_take_succ (renL names) V hlt)
      clear hcell hrd hp3
      generalize V.getD k [] = l at *
      generalize (V.take k).map (renL names) = T at *
      obtain ⟨bl, ol, rfl, hbl, hcl⟩ := RD.out.2 hp1
      have HCL := Lib.hid hcl
      clear hcl
      go_wp2_with fail
      clear hck
      obtain ⟨wo, rfl⟩ : ∃ wo, wo = wr := ⟨wr, rfl⟩
      go_loopw [8, 19] (fun s8 s19 wq => ∃ j : Nat, j ≤ l.length ∧ s19 = .int .i64 j ∧ wq.ownsRow wo.heap.size 3 1 s8 j (I (renL names (l.take j))) ∧ Below wo.heap.size wo wq) (fun _ s19 _ => l.length - (intOf s19).toNat)
      case atStart => exact ⟨0, Nat.zero_le _, rfl, World.ownsRow_nil _ _ _ _, Below.refl _ _⟩
      case round =>
        obtain ⟨j, hj, rfl, o8, hb8⟩ := hrel
        have z8 := hb8.size
        by_cases hjl : j < l.length
        · have hcj : wr.cell? ⟨bl, ol + j, none⟩ = some (.int .i64 (l.getD j 0)) := (hb8.cell (by show bl < _; omega)).trans (HCL.out j hjl)
          have hin := HP3.out (l.getD j 0) (getD_mem l j hjl)
          obtain ⟨i, hi⟩ : ∃ i : Nat, l.getD j 0 = i := ⟨(l.getD j 0).toNat, by omega⟩
          have hin2 : i < m := by omega
          obtain ⟨bn, on, rfl, hbn, hcn⟩ := RN.out.at_ hin2
          have hcn2 : wr.cell? ⟨bn, on + i, none⟩ = some (.int .i64 (names.getD i 0)) := (hb8.cell (by show bn < _; omega)).trans hcn
          have hsn2 : renL names (l.take (j + 1)) = renL names (l.take j) ++ [names.getD i 0] := by
            unfold renL
            rw [take_succ_getD l j hjl, List.map_append, hi]; rfl
          have HSN2 := Lib.hid hsn2
          rw [hi] at hcj
          clear hi hin hsn2 hcn
          generalize renL names (l.take j) = T8 at *
          generalize names.getD i 0 = y at *
          go_wp2_with (at_builtin; refine push1 rfl _ _ rfl wr wo.heap.size _ j T8 y rfl rfl (by exact o8) z8 (by omega) ?_)
          intro g cap w1 o9 gr9 _ _
          have hb9 := hb8.grown gr9 z8 (own_not o8)
          clear o8 gr9 hb8 hcj hcn2
          go_wp2
          go_roundw
          case rel => exact ⟨j + 1, by omega, by go_num, by rw [HSN2.out]; exact o9, hb9⟩
          case measure => simp [intOf]; omega
        · obtain rfl : j = l.length := by omega
          rw [List.take_of_length_le (Nat.le_refl _)] at o8
          obtain ⟨a8, c8, rfl, _, _⟩ := own_slice o8
          have hv1 := own_below hv hb8 (Nat.le_refl _)
          have hel1 := hel.below hb8 (Nat.le_refl _)
          have hbl1 := hbel.trans (hb8.mono hz)
          have hrl : (renL names l).length = l.length := by unfold renL; rw [List.length_map]
          clear hv hel hbel hb8
          go_wp2_with (at_builtin; refine pushS rfl _ _ rfl wr w.heap.size _ k vs a8 l.length c8 rfl rfl (by exact hv1) (by omega) (by omega) ?_)
          intro g cap w3 hv3 hg3 hg4 hg5
          have hkind : ∀ y, Value.ownBlock _ = some y → y < w.heap.size ∨ ∃ c t, wr.heap[y]? = some (.cells c t (0, 0)) ∧ t ≠ 3 := fun y hy => by
            obtain ⟨c, hc⟩ := own_kind hv1 hy
            exact .inr ⟨c, _, hc, by decide⟩
          have hel3 := hel1.kept hg3 hkind
          have o3 := o8.kept hg3 (own_far hv1 o8 (by decide))
          have hbl3 := hbl1.grown hg3 (by omega) (fun y hy => (hv1.lt _ hy).1)
          have hel4 := hel3.snoc (l := renL names l) (by rw [hrl]; exact own_mono o3 hz)
          clear hkind hel1 hv1 hbl1 o8 o3 hel3 hg3 hg4
          go_wp2
          go_roundw
          case rel => exact ⟨k + 1, _, by omega, by go_num, hv3, by rw [HSN.out]; exact hel4, hbl3⟩
          case measure => simp [intOf]; omega
    · obtain rfl : k = V.length := by omega
      rw [List.take_of_length_le (Nat.le_refl _)] at hel
      have e2 : (V.map (renL names)).length = V.length := by simp
      have E2 := Lib.hid e2
      clear e2
      go_wp2
      go_ret
      exact ⟨_, vs, rfl, by rw [E2.out]; exact hv, hel, hbel⟩
end Go.Proofs.Ytobioglccgfkdaa

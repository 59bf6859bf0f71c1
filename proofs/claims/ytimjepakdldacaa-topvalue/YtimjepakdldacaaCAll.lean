/-
  order.All returns all orders of n alternatives, from 1 to 6, in lexicographic order, each a row of its own, and the error ErrArg else; nothing that was there is written.
-/
import Derived.Test.YtimjepakdldacaaCAdvance
import Derived.Test.YtimjepakdldacaaCClone
import Derived.Test.YtimjepakdldacaaPush
import Derived.Test.YtimjepakdldacaaM17
import Derived.Deep.LoopGhost
import Derived.WalkKit
import Derived.KernelRfl
import Derived.Laws.NewBlocks
namespace Go.Proofs.Ytimjepakdldacaa
open Go.RowKit Fm
set_option linter.unusedVariables false

set_option maxHeartbeats 400000 in
set_option maxRecDepth 100000 in
theorem all_arg (n : Int) (w : World) (hn : n < 1 ∨ 6 < n) :
    Calls Try.prog 64 #[.int .i64 n] w fun e w' => e = .returned (.tuple #[.slice none 0 0, .int .i64 1]) ∧ w = w' := by
  rcases hn with hn | hn
  · go_enter Try.func64, Try.ntmps64
    go_wp2
    go_ret2
    exact ⟨rfl, rfl⟩
  · have h1 : ¬ n < 1 := by omega
    go_enter Try.func64, Try.ntmps64
    go_wp2
    go_ret2
    exact ⟨rfl, rfl⟩

/-- What order.All leaves. -/
def AllOut (n : Nat) (w : World) (e : Ending) (w' : World) : Prop :=
  ∃ v vs, e = .returned (.tuple #[v, .int .i64 0]) ∧ w'.ownsRow w.heap.size 27 1 v (allO n).length vs ∧ Elems w' w.heap.size 3 vs (allO n) ∧ Below w.heap.size w w'

set_option maxHeartbeats 2000000 in
set_option maxRecDepth 100000 in
theorem all_any (n : Nat) (w : World) (h1 : 1 ≤ n) (h6 : n ≤ 6) : Calls Try.prog 64 #[.int .i64 n] w (AllOut n w) := by
  have hmk : ∀ W : World, (Instr.makeSlice 27 (.int .i64 n) (.int .i64 n)).run Try.prog W = .ok (.slice (some ⟨W.heap.size, 0, none⟩) n n) (W.alloc (.cells (zeros n) 3)) := make_ints n (by omega)
  go_enter Try.func64, Try.ntmps64
  go_wp2
  clear hmk
  have hz := own_lit w 3 (List.replicate n 0) (zeros n) rfl (by unfold maxLen; simp; omega)
  rw [List.length_replicate] at hz
  have hb0 : Below w.heap.size w (w.alloc (.cells (zeros n) 3)) := (Below.refl _ w).alloc (Nat.le_refl _) _
  go_loopw [17] (fun i wr => ∃ k : Nat, k ≤ n ∧ i = .int .i64 k ∧ wr.ownsRow w.heap.size 3 1 (.slice (some ⟨w.heap.size, 0, none⟩) n n) n (I (sides k ++ List.replicate (n - k) 0)) ∧ Below w.heap.size w wr) (fun i _ => n - (intOf i).toNat)
  case atStart => exact ⟨0, Nat.zero_le _, rfl, by simpa [sides] using hz, hb0⟩
  case round =>
    obtain ⟨k, hk, rfl, hown, hbel⟩ := hrel
    clear hz hb0
    by_cases hlt : k < n
    · have ck := own_cell hown k hlt
      have fk := hown.frozenAt k
      have s1 := hown.stored k (.int .i64 k)
      have e1 : (I (sides k ++ List.replicate (n - k) 0)).set k (.int .i64 k) = I (sides (k + 1) ++ List.replicate (n - (k + 1)) 0) := by
        have e2 : n - k = (n - (k + 1)) + 1 := by omega
        unfold I
        rw [e2, List.replicate_succ, sides_succ, List.append_assoc, List.singleton_append]
        rw [← List.map_set, List.set_append_right _ _ (by rw [sides_len]; exact Nat.le_refl _), sides_len, Nat.sub_self, List.set_cons_zero]
      rw [e1] at s1
      obtain ⟨s1, s2⟩ := s1
      have hb1 := hbel.grown s2 hbel.size (fun j hj => by injection hj with hj; omega)
      generalize (sides k ++ List.replicate (n - k) 0).getD k 0 = old at *
      clear hown hbel e1 s2
      go_wp2
      go_roundw
      case rel => exact ⟨k + 1, by omega, by go_num, s1, hb1⟩
      case measure => simp [intOf]; omega
    · obtain rfl : k = n := by omega
      rw [Nat.sub_self, List.replicate_zero, List.append_nil] at hown
      have hHlt : w.heap.size < wr.heap.size := (hown.lt w.heap.size rfl).2
      have lenO : ∀ j, j < (allO k).length → ((allO k).getD j []).length = k := fun j hj => by
        have hm : (allO k).getD j [] ∈ allO k := by rw [List.getD_eq_getElem?_getD, List.getElem?_eq_getElem hj]; exact List.getElem_mem hj
        have := (mem_allO.1 hm).length_eq
        rwa [sides_len] at this
      have HLEN := Lib.hid lenO
      have HNX : Hid (∀ j, j < (allO k).length → nxt ((allO k).getD j []) = (allO k)[j + 1]?) := fun j hj => allO_next h1 h6 hj
      have hpos : 0 < (allO k).length := by
        have : sides k ∈ allO k := mem_allO.2 (List.Perm.refl _)
        exact List.length_pos_of_mem this
      have hlen720 := allO_le h1 h6
      have HH := Lib.hid (allO_head h1 h6)
      clear lenO
      generalize hL : allO k = L at *
      have HL2 := Lib.hid hL
      clear hL
      rw [← HH.out] at hown
      have hl0 := HLEN.out 0 hpos
      go_wp2_with fail
      refine (clone_any (L.getD 0 []) _ k k wr wr.heap.size (Rd.of_own hown) (by omega)).mono ?_
      rintro e w1 ⟨v0, rfl, o1, hb1⟩
      obtain ⟨a0, c0, rfl, _, _⟩ := own_slice o1
      have z1 := hb1.size
      have hown1 := own_below hown hb1 (Nat.le_refl _)
      have hbel1 := hbel.trans (hb1.mono hbel.size)
      clear hb1 hown hbel
      go_wp2_with fail
      have hw2 : (w1.alloc (.cells #[.slice a0 k c0] 27)).ownsRow (w.heap.size + 1) 27 1 (.slice (some ⟨w1.heap.size, 0, none⟩) 1 1) 1 [.slice a0 k c0] :=
        ⟨rfl, .inr ⟨w1.heap.size, 1, _, rfl, by omega, heap_alloc_new w1 _, Nat.le_refl _, by unfold maxLen; omega, rfl, rfl⟩⟩
      have el2 : Elems (w1.alloc (.cells #[.slice a0 k c0] 27)) (w.heap.size + 1) 3 [.slice a0 k c0] (L.take 1) := by
        refine ⟨by simp; omega, fun j v hv => ?_⟩
        have hj0 : j = 0 := by
          rcases Nat.eq_zero_or_pos j with h0 | h0
          · exact h0
          · rw [List.getElem?_eq_none (by simp; omega)] at hv; cases hv
        subst hj0
        simp at hv
        subst hv
        have e1 : (L.take 1).getD 0 [] = L.getD 0 [] := by simp [List.getD_eq_getElem?_getD]
        rw [e1, hl0]
        exact own_mono (o1.alloc _) (by omega)
      have hown2 := hown1.alloc (.cells #[.slice a0 k c0] 27)
      have hbel2 := hbel1.alloc hbel1.size (.cells #[.slice a0 k c0] 27)
      clear hown1 hbel1 o1
      generalize w1.alloc (.cells #[.slice a0 k c0] 27) = w2 at *
      go_loopg [6] L.length (fun g s6 wr => ∃ (j : Nat) (vs : List Value), j < L.length ∧ L.length - j ≤ g ∧ wr.ownsRow w.heap.size 3 1 (.slice (some ⟨w.heap.size, 0, none⟩) k k) k (I (L.getD j [])) ∧
        wr.ownsRow (w.heap.size + 1) 27 1 s6 (j + 1) vs ∧ Elems wr (w.heap.size + 1) 3 vs (L.take (j + 1)) ∧ Below w.heap.size w wr)
      case atStart => exact ⟨0, _, hpos, by omega, hown2, hw2, el2, hbel2⟩
      case round =>
        obtain ⟨j, vs, hj, hg, hp, hv6, hel, hbl⟩ := hrel
        have hnx := HNX.out j hj
        have hlj := HLEN.out j hj
        have hHr := (hp.lt w.heap.size rfl).2
        by_cases hlast : j + 1 < L.length
        · rw [List.getElem?_eq_getElem hlast] at hnx
          obtain ⟨i, hsc, hq⟩ := nxt_some hnx
          rw [hlj] at hsc hq
          have hq' : turnTail (exch (L.getD j []) i (scanJ (L.getD j []) ((L.getD j []).getD i 0) (k - 1))) (i + 1) = L.getD (j + 1) [] := by
            rw [← hq, List.getD_eq_getElem?_getD, List.getElem?_eq_getElem hlast]; rfl
          have HQ := Lib.hid hq'
          have HSC := Lib.hid hsc
          have hl1 := HLEN.out (j + 1) hlast
          clear hq hq' hnx hsc
          go_wp2_with fail
          refine (advance_some w.heap.size w.heap.size k k (L.getD j []) wr hp h1 (by omega) i HSC.out).mono ?_
          rintro e w3 ⟨rfl, hp3, hg3⟩
          rw [HQ.out] at hp3
          have hv3 := hv6.kept hg3 (.inr (fun he => by have := (hv6.lt _ he).1; omega))
          have hel3 := hel.kept hg3 (fun g hg => by injection hg with hg; left; omega)
          have hbl3 := hbl.grown hg3 hbl.size (fun g hg => by injection hg with hg; omega)
          have z3 := hg3.size
          clear hp hv6 hel hbl hg3
          go_wp2_with fail
          refine (clone_any (L.getD (j + 1) []) _ k k w3 w3.heap.size (Rd.of_own hp3) (by omega)).mono ?_
          rintro e w4 ⟨v4, rfl, o4, hb4⟩
          obtain ⟨a4, c4, rfl, _, _⟩ := own_slice o4
          have z4 := hb4.size
          have hp4 := own_below hp3 hb4 (Nat.le_refl _)
          have hv4 := own_below hv3 hb4 (Nat.le_refl _)
          have hel4 := hel3.below hb4 (Nat.le_refl _)
          have hbl4 := hbl3.trans (hb4.mono (by omega))
          clear hp3 hv3 hel3 hbl3 hb4
          go_wp2_with (at_builtin; refine pushS rfl _ _ rfl w4 (w.heap.size + 1) _ (j + 1) vs a4 k c4 rfl rfl (by exact hv4) (by omega) (by omega) ?_)
          intro g cap w5 hv5 hg5 hg6 hg7
          have hp5 := hp4.kept hg5 (.inr (fun he => by have h5 := (hv4.lt w.heap.size he.symm).1; omega))
          have hkind : ∀ b, Value.ownBlock _ = some b → b < w.heap.size + 1 ∨ ∃ c t, w4.heap[b]? = some (.cells c t (0, 0)) ∧ t ≠ 3 := fun b hb => by
            obtain ⟨c, hc⟩ := own_kind hv4 hb
            exact .inr ⟨c, _, hc, by decide⟩
          have hel5 := hel4.kept hg5 hkind
          have o5 := o4.kept hg5 (by
            cases hb : (Value.slice a4 k c4).ownBlock with
            | none => exact .inl rfl
            | some b =>
              right
              intro he
              obtain ⟨c, hc⟩ := own_kind hv4 he.symm
              obtain ⟨c', hc'⟩ := own_kind o4 hb
              rw [hc] at hc'
              injection hc' with hc'
              injection hc' with _ hc'
              exact absurd hc' (by decide))
          have hbl5 := hbl4.grown hg5 (by omega) (fun b hb => by have := (hv4.lt _ hb).1; omega)
          have hsn : L.take (j + 1 + 1) = L.take (j + 1) ++ [L.getD (j + 1) []] := by
            rw [List.take_succ_eq_append_getElem hlast, List.getD_eq_getElem?_getD, List.getElem?_eq_getElem hlast]; rfl
          have hel6 : Elems w5 (w.heap.size + 1) 3 (vs ++ [.slice a4 k c4]) (L.take (j + 1 + 1)) := by
            rw [hsn]
            exact hel5.snoc (by rw [hl1]; exact own_mono o5 (by omega))
          clear hg5 hg6 hel4 hbl4 hp4 hv4 o4 o5 hel5 hkind hsn
          go_wp2
          go_roundg (L.length - (j + 1))
          case measure => omega
          case rel => exact ⟨j + 1, _, hlast, by omega, hp5, hv5, hel6, hbl5⟩
        · rw [List.getElem?_eq_none (by omega)] at hnx
          have hsc := nxt_none hnx
          rw [hlj] at hsc
          have HSC := Lib.hid hsc
          clear hnx hsc
          go_wp2_with fail
          refine (advance_none w.heap.size w.heap.size k k (L.getD j []) wr hp h1 (by omega) HSC.out).mono ?_
          rintro e w3 ⟨rfl, q, rfl⟩
          have hjl : j + 1 = L.length := by omega
          rw [hjl, List.take_of_length_le (Nat.le_refl _)] at hel
          rw [hjl] at hv6
          go_wp2
          go_ret2
          exact ⟨_, vs, rfl, by rw [HL2.out]; exact own_drewN (own_mono hv6 (by omega)) q, by rw [HL2.out]; exact (hel.mono (by omega)).drewN q, below_drewN hbl q⟩
end Go.Proofs.Ytimjepakdldacaa

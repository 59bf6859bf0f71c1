/-
  plumeref.AllOrders returns all orders of the given ones, each at the front ahead of all orders of the others, each a row of its own; nothing that was there is written.
-/
import Derived.Test.YthcaipnlgbnfkaaApp
import Derived.Test.YthcaipnlgbnfkaaPushS
import Derived.Test.YthcaipnlgbnfkaaCClone
import Derived.Test.YthcaipnlgbnfkaaPureA
import Derived.Deep.DeepCutAuto
import Derived.IntWalk
import Derived.WalkKit
import Derived.KernelRfl
import Derived.Laws.NewBlocks
namespace Go.Proofs.Ythcaipnlgbnfkaa
open Go.RowKit Fm
set_option linter.unusedVariables false

/-- What plumeref.AllOrders leaves. -/
def OrdersOut (k : Nat) (S : List Int) (w : World) (e : Ending) (w' : World) : Prop :=
  ∃ v vs, e = .returned v ∧ w'.ownsRow w.heap.size 22 1 v (perms k S).length vs ∧ Elems w' w.heap.size 3 vs (perms k S) ∧ Below w.heap.size w w'

set_option maxHeartbeats 400000 in
set_option maxRecDepth 100000 in
theorem allOrders_zero (S : List Int) (a : Option Addr) (c : Nat) (w : World) : Calls Try.prog 57 #[.slice a 0 c] w (OrdersOut 0 S w) := by
  go_enter Try.func57, Try.ntmps57
  go_wp2
  go_ret
  refine ⟨_, [.slice none 0 0], rfl, ⟨rfl, .inr ⟨w.heap.size, 1, _, rfl, Nat.le_refl _, heap_alloc_new w _, Nat.le_refl _, by unfold maxLen; omega, rfl, rfl⟩⟩, ⟨rfl, fun j v hv => ?_⟩, (Below.refl _ w).alloc (Nat.le_refl _) _⟩
  have hj0 : j = 0 := by
    rcases Nat.eq_zero_or_pos j with h0 | h0
    · exact h0
    · rw [List.getElem?_eq_none (by simp; omega)] at hv; cases hv
  subst hj0
  simp at hv
  subst hv
  exact World.ownsRow_nil _ _ _ _

/-- One round's rest: all but the i-th. -/
theorem erase_take_drop (S : List Int) (i : Nat) : S.eraseIdx i = S.take i ++ S.drop (i + 1) := List.eraseIdx_eq_take_drop_succ S i

/-- What the statement that makes the rest leaves. -/
def RestOut (wr : World) (k : Nat) (l : List Int) (s6 : Value) (wx : World) : Prop :=
  ∃ a' c', s6 = .slice a' k c' ∧ wx.ownsRow wr.heap.size 3 1 (.slice a' k c') k (I l) ∧ k ≤ c' ∧ c' ≤ maxLen ∧ Below wr.heap.size wr wx

set_option maxHeartbeats 2000000 in
set_option maxRecDepth 100000 in
theorem allOrders_succ (k : Nat) (h6 : k + 1 ≤ 6) (IH : ∀ (S : List Int) (a : Option Addr) (c : Nat) (w : World) (B : Nat), S.length = k → B ≤ w.heap.size → k ≤ c → c ≤ maxLen → Rd w B a k S → Calls Try.prog 57 #[.slice a k c] w (OrdersOut k S w))
    (S : List Int) (a : Option Addr) (c : Nat) (w : World) (B : Nat) (hS : S.length = k + 1) (hB : B ≤ w.heap.size) (hc : k + 1 ≤ c) (hcm : c ≤ maxLen) (hr : Rd w B a (k + 1) S) : Calls Try.prog 57 #[.slice a (k + 1) c] w (OrdersOut (k + 1) S w) := by
  obtain ⟨b, o, rfl, hb, hcell⟩ := hr.2 (by omega)
  have HIH := Lib.hid IH
  have HS := Lib.hid hS
  have HR := Lib.hid hr
  have HCELL := Lib.hid hcell
  have hfk : fact k ≤ 720 := fact_le (by omega)
  have HTL : Hid (∀ i, i ≤ k + 1 → (permsTo k S i).length = i * fact k) := fun i hi => permsTo_len k S hS i hi
  clear IH hS hr hcell
  unfold maxLen at hcm
  have hne : ((k : Int) + 1 == 0) = false := by simp; omega
  go_enter Try.func57, Try.ntmps57
  go_wp2
  go_loopw [3, 15] (fun s3 s15 wr => ∃ (i : Nat) (vs : List Value), i ≤ k + 1 ∧ s15 = .int .i64 i ∧ wr.ownsRow w.heap.size 22 1 s3 (permsTo k S i).length vs ∧ Elems wr w.heap.size 3 vs (permsTo k S i) ∧ Below w.heap.size w wr) (fun _ s15 _ => k + 1 - (intOf s15).toNat)
  case atStart => exact ⟨0, [], Nat.zero_le _, rfl, World.ownsRow_nil _ _ _ _, Elems.nil_, Below.refl _ _⟩
  case round =>
    obtain ⟨i, vs, hi, rfl, hv, hel, hbel⟩ := hrel
    have hz := hbel.size
    by_cases hlt : i < k + 1
    · have hx : wr.cell? ⟨b, o + i, none⟩ = some (.int .i64 (S.getD i 0)) := (hbel.cell (by show b < _; omega)).trans (HCELL.out i hlt)
      have RR := Lib.hid (HR.out.below hbel hB)
      have HLI := HTL.out i hi
      have hil : i * fact k ≤ 6 * 720 := Nat.mul_le_mul (by omega) hfk
      have hTi : (permsTo k S i).length ≤ 4320 := by omega
      have HPS := Lib.hid (permsTo_succ k S i)
      have HER := Lib.hid (erase_take_drop S i)
      have HLE : Hid ((S.eraseIdx i).length = k) := by show _ = _; rw [List.length_eraseIdx, HS.out, if_pos hlt]; omega
      have HPL := Lib.hid (perms_len k (S.eraseIdx i) HLE.out)
      clear hil HLI
      generalize S.getD i 0 = x at *
      generalize permsTo k S i = T at *
      have hli : (S.take i).length = i := by rw [List.length_take, HS.out]; omega
      have b1 : (i : Int) ≤ (c : Int) := by omega
      have b2 : (i : Int) + 1 ≤ (k : Int) + 1 := by omega
      have RT := Lib.hid (RR.out.cutR i (by omega))
      have hwr : IntKind.i64.wrap ((i : Int) + 1) = (i : Int) + 1 := IntWalk.i64_in _ (by omega)
      have HWR := Lib.hid hwr
      clear hwr
      go_upto_region 7 with fail
      go_cut [6] (fun s6 wx => RestOut wr k (S.eraseIdx i) s6 wx)
      case first =>
        have b3 : (i : Int) ≤ (i : Int) + 1 := by omega
        have b4 : (0 : Int) ≤ (i : Int) + 1 := by omega
        have hwr := HWR.out
        by_cases hci : c = i + 1
        · subst hci
          obtain rfl : i = k := by omega
          go_region_law (first
            | (refine stepApp _ wr.heap.size _ i (S.take i) (by assumption) _ _ _ [] B (fun h => by cases h) Rd.nil_ (Below.size (B := wr.heap.size) (w := wr) (by assumption)) (by omega) (by omega) rfl _ _ rfl rfl rfl ?_; intro v2 w2 o3 g3 h3)
            | (go_simp; go_at_call 59; refine (clone_any (S.take i) _ i _ _ B RT.out.drew (by omega)).mono ?_; rintro e w1 ⟨v1, rfl, o1, hb1⟩; have o2 : w1.ownsRow wr.heap.size 3 1 v1 i (I (S.take i)) := o1; have hb2 : Below wr.heap.size wr w1 := ⟨hb1.os, hb1.tape, hb1.output, hb1.size, hb1.block⟩; clear o1 hb1))
          have e1 : S.take i ++ [] = S.eraseIdx i := by rw [HER.out, List.drop_eq_nil_of_le (by rw [HS.out]; exact Nat.le_refl _)]
          rw [e1] at o3
          obtain ⟨a', c', rfl, hc1, hc2⟩ := own_slice o3
          have hb3 := hb2.grown g3 hb2.size (fun j hj => (o2.lt j hj).1)
          go_wp2_with fail
          go_meet
          exact ⟨a', c', rfl, o3, hc1, hc2, hb3⟩
        · have b5 : (i : Int) + 1 ≤ (c : Int) := by omega
          have RL := Lib.hid (RR.out.cutL (i + 1) (by omega))
          rw [show k + 1 - (i + 1) = k - i by omega] at RL
          go_region_law (first
            | (refine stepApp _ wr.heap.size _ i (S.take i) (by assumption) _ _ _ (S.drop (i + 1)) B (fun h => by cases h) (RL.out.below (B' := wr.heap.size) (by assumption) (by omega)) (Below.size (B := wr.heap.size) (w := wr) (by assumption)) (by omega) (by omega) rfl _ _ rfl rfl rfl ?_; intro v2 w2 o3 g3 h3)
            | (go_simp; go_at_call 59; refine (clone_any (S.take i) _ i _ _ B RT.out.drew (by omega)).mono ?_; rintro e w1 ⟨v1, rfl, o1, hb1⟩; have o2 : w1.ownsRow wr.heap.size 3 1 v1 i (I (S.take i)) := o1; have hb2 : Below wr.heap.size wr w1 := ⟨hb1.os, hb1.tape, hb1.output, hb1.size, hb1.block⟩; clear o1 hb1))
          rw [← HER.out, show i + (k - i) = k by omega] at o3
          obtain ⟨a', c', rfl, hc1, hc2⟩ := own_slice o3
          have hb3 := hb2.grown g3 hb2.size (fun j hj => (o2.lt j hj).1)
          go_wp2_with fail
          go_meet
          exact ⟨a', c', rfl, o3, hc1, hc2, hb3⟩
      case rest =>
        obtain ⟨a', c', rfl, o6, hc1, hc2, hb6⟩ := hcut
        clear hx b1 b2 RT RR HER
        go_wp2_with fail
        refine (HIH.out (S.eraseIdx i) a' c' _ _ HLE.out (Nat.le_refl _) hc1 hc2 (Rd.of_own o6)).mono ?_
        rintro e w8 ⟨v8, vs8, rfl, ov8, oe8, hb8⟩
        rw [HPL.out] at ov8
        have hF1 : 1 ≤ fact k := by have := fact_ge k; omega
        obtain ⟨g8, cap8, rfl, hg8, hg8'⟩ := ov8.form hF1
        have z6 := hb6.size
        have z8 := hb8.size
        have hv8 := own_below (own_below hv hb6 (Nat.le_refl _)) hb8 (Nat.le_refl _)
        have hel8 := (hel.below hb6 (Nat.le_refl _)).below hb8 (Nat.le_refl _)
        have hbl8 := (hbel.trans (hb6.mono hz)).trans (hb8.mono (by omega))
        have hne3 : Hid (Value.ownBlock _ ≠ some g8) := fun he => by have := (hv.lt g8 he).2; omega
        clear hv hel hbel hb6 hb8 o6
        have HLQ : Hid (∀ j, j < fact k → ((perms k (S.eraseIdx i)).getD j []).length = k) := fun j hj => by
          have hj' : j < (perms k (S.eraseIdx i)).length := by rw [HPL.out]; exact hj
          have hm : (perms k (S.eraseIdx i)).getD j [] ∈ perms k (S.eraseIdx i) := by rw [List.getD_eq_getElem?_getD, List.getElem?_eq_getElem hj']; exact List.getElem_mem hj'
          have := ((mem_perms k _ _ HLE.out).1 hm).length_eq
          rw [this, HLE.out]
        generalize perms k (S.eraseIdx i) = L' at *
        go_wp2_with fail
        go_loopw [3, 32] (fun s3 s32 wq => ∃ (j : Nat) (vs' : List Value), j ≤ fact k ∧ s32 = .int .i64 j ∧ wq.ownsRow w.heap.size 22 1 s3 (T ++ (L'.take j).map (x :: ·)).length vs' ∧ Elems wq w.heap.size 3 vs' (T ++ (L'.take j).map (x :: ·)) ∧
          s3.ownBlock ≠ some g8 ∧ wq.ownsRow wc.heap.size 22 1 (.slice (some ⟨g8, 0, none⟩) (fact k) cap8) (fact k) vs8 ∧ Elems wq wc.heap.size 3 vs8 L' ∧ Below w.heap.size w wq ∧ wc.heap.size ≤ wq.heap.size) (fun _ s32 _ => fact k - (intOf s32).toNat)
        case atStart => exact ⟨0, vs, Nat.zero_le _, rfl, by simpa using hv8, by simpa using hel8, hne3.out, ov8, oe8, hbl8, z8⟩
        case round =>
          obtain ⟨j, vs', hj, rfl, hv9, hel9, hne9, ov9, oe9, hbl9, zc9⟩ := hrel
          have HNE := Lib.hid hne9
          clear hv8 hel8 hbl8 hne3 ov8 oe8 hne9
          by_cases hjl : j < fact k
          · have hlq := HLQ.out j hjl
            obtain ⟨vq, hvq, oq⟩ := oe9.at_ (j := j) (by rw [HPL.out]; exact hjl)
            have hsn : L'.take (j + 1) = L'.take j ++ [L'.getD j []] := by
              have hj' : j < L'.length := by rw [HPL.out]; exact hjl
              rw [List.take_succ_eq_append_getElem hj', List.getD_eq_getElem?_getD, List.getElem?_eq_getElem hj']; rfl
            have hTj : (T ++ (L'.take j).map (x :: ·)).length ≤ 1000000 := by
              have : (L'.take j).length ≤ j := List.length_take_le _ _
              rw [List.length_append, List.length_map]; omega
            have HSN : Hid (T ++ (L'.take (j + 1)).map (x :: ·) = (T ++ (L'.take j).map (x :: ·)) ++ [x :: L'.getD j []]) := by show _ = _; rw [hsn]; simp
            rw [hlq] at oq
            obtain ⟨aq, cq, rfl, _, _⟩ := own_slice oq
            have hAq := own_nil oq
            have hcj : wr.cell? ⟨g8, j, none⟩ = some (.slice aq k cq) := by rw [ov9.cellAt j (by omega)]; exact hvq
            have RQ := Lib.hid ((Rd.of_own oq).alloc (Nat.le_refl _) (.cells #[.int .i64 x] 3))
            have zw := hbl9.size
            clear hsn oq hvq
            generalize L'.getD j [] = q at *
            generalize hN : T ++ (L'.take j).map (x :: ·) = N at *
            clear hN
            have ox := own_lit wr 3 [x] #[.int .i64 x] rfl (by unfold maxLen; simp)
            have HCJ := Lib.hid hcj
            go_wp2_with (at_builtin; refine wpApp _ wr.heap.size _ 1 [x] (by exact ox) aq k cq q wr.heap.size hAq RQ.out (by simp) (by omega) (by omega) rfl _ _ rfl rfl rfl ?_)
            intro v40 w40 o40 g40 h40
            obtain ⟨a40, c40, rfl, _, _⟩ := own_slice o40
            have hb40 : Below wr.heap.size wr w40 := ((Below.refl _ wr).alloc (Nat.le_refl _) _).grown g40 (by simp) (fun y hy => by simp [Value.ownBlock] at hy; omega)
            have z40 := hb40.size
            have hv10 := own_below hv9 hb40 (Nat.le_refl _)
            have hel10 := hel9.below hb40 (Nat.le_refl _)
            have ov10 := own_below ov9 hb40 (Nat.le_refl _)
            have oe10 := oe9.below hb40 (Nat.le_refl _)
            have hbl10 := hbl9.trans (hb40.mono zw)
            clear hv9 hel9 ov9 oe9 hbl9 hb40 g40 h40 ox RQ HCJ hcj
            go_wp2_with (at_builtin; refine pushS rfl _ _ rfl w40 w.heap.size _ N.length vs' a40 (1 + k) c40 rfl rfl (by exact hv10) (by omega) hTj ?_)
            intro g5 cap5 w5 hv11 hg11 hg12 hg13
            have hkind : ∀ y, Value.ownBlock _ = some y → y < w.heap.size ∨ ∃ c t, w40.heap[y]? = some (.cells c t (0, 0)) ∧ t ≠ 3 := fun y hy => by
              obtain ⟨c, hc⟩ := own_kind hv10 hy
              exact .inr ⟨c, _, hc, by decide⟩
            have hkind2 : ∀ y, Value.ownBlock _ = some y → y < wc.heap.size ∨ ∃ c t, w40.heap[y]? = some (.cells c t (0, 0)) ∧ t ≠ 3 := fun y hy => by
              obtain ⟨c, hc⟩ := own_kind hv10 hy
              exact .inr ⟨c, _, hc, by decide⟩
            have hel11 := hel10.kept hg11 hkind
            have oe11 := oe10.kept hg11 hkind2
            have ov11 := ov10.kept hg11 (.inr (Ne.symm HNE.out))
            have o41 := o40.kept hg11 (own_far hv10 o40 (by decide))
            have hbl11 := hbl10.grown hg11 (by omega) (fun y hy => (hv10.lt _ hy).1)
            have z11 := hg11.size
            have hng : g5 ≠ g8 := by
              have hg8w := (ov10.lt g8 rfl).2
              rcases hg12 with h | h
              · intro e; subst e; exact HNE.out h
              · omega
            have hel12 : Elems w5 w.heap.size 3 (vs' ++ [.slice a40 (1 + k) c40]) (N ++ [x :: q]) := by
              refine hel11.snoc ?_
              have e2 : (x :: q).length = 1 + k := by rw [List.length_cons, hlq]; omega
              rw [e2]
              exact own_mono o41 (by omega)
            have hlen1 : (N ++ [x :: q]).length = N.length + 1 := by simp
            clear hkind hkind2 hel10 oe10 ov10 hbl10 hv10 o40 o41 hel11 hg11 hg12
            go_wp2
            go_roundw
            case rel => exact ⟨j + 1, _, by omega, by go_num, by rw [HSN.out, hlen1]; exact hv11, by rw [HSN.out]; exact hel12, by simpa [Value.ownBlock] using hng, ov11, oe11, hbl11, by omega⟩
            case measure => simp [intOf]; omega
          · obtain rfl : j = fact k := by omega
            rw [List.take_of_length_le (by rw [HPL.out]; exact Nat.le_refl _), ← HPS.out] at hv9 hel9
            go_wp2
            go_roundw
            case rel => exact ⟨i + 1, vs', by omega, by go_num, hv9, hel9, hbl9⟩
            case measure => simp [intOf]; omega
    · obtain rfl : i = k + 1 := by omega
      rw [← perms_succ k S HS.out] at hv hel
      go_wp2
      go_ret
      exact ⟨_, vs, rfl, hv, hel, hbel⟩

theorem allOrders_any : ∀ (k : Nat), k ≤ 6 → ∀ (S : List Int) (a : Option Addr) (c : Nat) (w : World) (B : Nat), S.length = k → B ≤ w.heap.size → k ≤ c → c ≤ maxLen → Rd w B a k S → Calls Try.prog 57 #[.slice a k c] w (OrdersOut k S w) := by
  intro k
  induction k with
  | zero => intro _ S a c w B _ _ _ _ _; exact allOrders_zero S a c w
  | succ k ih => intro h6 S a c w B hS hB hc hcm hr; exact allOrders_succ k h6 (ih (by omega)) S a c w B hS hB hc hcm hr
end Go.Proofs.Ythcaipnlgbnfkaa

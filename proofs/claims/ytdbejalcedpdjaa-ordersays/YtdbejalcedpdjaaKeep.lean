/-
  plumeref.Rest, plumeref.Sides, plumekeep.Within, plumekeep.OrderOf, plumekeep.good: what they return; nothing that was there is written.
-/
import Derived.Test.YtdbejalcedpdjaaProg
import Derived.Test.YtdbejalcedpdjaaBase
import Derived.Test.YtdbejalcedpdjaaKeepSpec
import Derived.Test.YtdbejalcedpdjaaSlc
import Derived.WalkKit
import Derived.KernelRfl
import Derived.Laws.NewBlocks
import Derived.Deep.AppendLies
import Derived.Lib.OwnBridge
import Derived.Deep.DeepFit
import Derived.Deep.DeepMust
namespace Go.Proofs.Ytdbejalcedpdjaa
open Go.RowKit Fm
set_option linter.unusedVariables false

set_option maxHeartbeats 400000 in
theorem rest_any (n m : Int) (w : World) (hn0 : -9223372036854775808 ≤ n) (hn1 : n ≤ 9223372036854775807) (hm : 1 ≤ m) (hm2 : m ≤ 1000000) :
    Calls Try.prog 32 #[.int .i64 n, .int .i64 m] w fun e w' => e = .returned (.int .i64 (n % m)) ∧ w = w' := by
  have hb := tmod_lo n (show 0 < m by omega)
  by_cases h : n.tmod m < 0
  · have H := Lib.hid (tmod_neg (by omega) h)
    go_enter Try.func32, Try.ntmps32
    go_wp2
    go_ret
    exact ⟨by rw [← H.out]; rfl, rfl⟩
  · have H := Lib.hid (tmod_pos (by omega) h)
    go_enter Try.func32, Try.ntmps32
    go_wp2
    go_ret
    exact ⟨by rw [← H.out]; rfl, rfl⟩

set_option maxHeartbeats 400000 in
theorem within_any (n m : Int) (w : World) (hn0 : -9223372036854775808 ≤ n) (hn1 : n ≤ 9223372036854775807) (hm : 1 ≤ m) (hm2 : m ≤ 1000000) :
    Calls Try.prog 22 #[.int .i64 n, .int .i64 m] w fun e w' => e = .returned (.int .i64 (n % m)) ∧ w = w' := by
  go_enter Try.func22, Try.ntmps22
  go_wp2_with fail
  refine (rest_any n m w hn0 hn1 hm hm2).mono ?_
  rintro e w' ⟨rfl, rfl⟩
  go_wp2
  go_ret
  exact ⟨rfl, rfl⟩

theorem info_int : (Try.prog.info? 3).map (fun i => (i.zero, i.size, i.bytes)) = some (some (.int .i64 0), 1, 8) := by kernel_rfl
/-- append(v, x), v a row of the call's own, x laid in a new block first. -/
theorem push1 {ops : Array Oper} {rest : List Oper} {o : Oper} {a : Act} {Q : Exit → Act → World → Prop} (hgd : o.guard = none) (s x : Operand)
    (ho : o.op = .call { callee := .builtin .append, args := #[s, x], argTypes := #[22, 22] })
    (w : World) (base : Nat) (v : Value) (n : Nat) (l : List Int) (y : Int) (hs : a.eval s = v) (hx : a.eval x = .slice (some ⟨w.heap.size, 0, none⟩) 1 1)
    (hown : w.ownsRow base 3 1 v n (I l)) (hbase : base ≤ w.heap.size) (hn : n ≤ 1000000)
    (h : ∀ g cap w', w'.ownsRow base 3 1 (.slice (some ⟨g, 0, none⟩) (n + 1) cap) (n + 1) (I (l ++ [y])) → w.grownBy w' v.ownBlock → (v.ownBlock = some g ∨ w.heap.size < g) → g < w'.heap.size →
      wpList Try.prog ops Q rest (a.put o.dst (.slice (some ⟨g, 0, none⟩) (n + 1) cap)) w') : wpList Try.prog ops Q (o :: rest) a (w.alloc (.cells #[.int .i64 y] 3)) := by
  obtain ⟨i0, hi, hz0, hz1, hz2⟩ := info_parts info_int
  refine wpList_append_lies _ hgd s x 22 ho base 3 i0 (.int .i64 0) 1 8 Try.underlying22 hi hz0 hz1 hz2 rfl (by decide) v n (I l) hs (hown.alloc _) ⟨w.heap.size, 0, none⟩ 1 1 [.int .i64 y] hx rfl ?_ ?_ (by decide) ?_ ?_ ?_ (w.heap.size + 1) (by simp) ?_
  · intro j u hj
    match j, hj with
    | 0, hj => simp at hj; subst hj; simp [Addr.add, World.cell?_alloc_new]
  · intro u hu; simp at hu; subst hu; rfl
  · unfold maxLen; omega
  · omega
  · simp; omega
  · intro g cap w' h1 h2 h3 h4
    refine h g cap w' (by simpa [I] using h1) ?_ ?_ h4
    · refine ⟨h2.os, h2.tape, h2.output, Nat.le_trans (by simp) h2.size, fun k hk hne => ?_⟩
      rw [h2.block k (by simp; omega) hne]
      exact Below.heap_alloc w _ k hk
    · rcases h3 with h3 | h3
      · exact .inl h3
      · right; omega

theorem own_not {w : World} {B : Nat} {v : Value} {n : Nat} {xs : List Value} {e : TypeId} (h : w.ownsRow B e 1 v n xs) : ∀ k, v.ownBlock = some k → B ≤ k := fun k hk => (h.lt k hk).1

set_option maxHeartbeats 400000 in
theorem sides_any (n : Nat) (w : World) (hn : n ≤ 1000) :
    Calls Try.prog 17 #[.int .i64 n] w fun e w' => ∃ v, e = .returned v ∧ w'.ownsRow w.heap.size 3 1 v n (I (sides n)) ∧ Below w.heap.size w w' := by
  go_enter Try.func17, Try.ntmps17
  go_wp2
  go_loopw [3, 6] (fun v i wr => ∃ k : Nat, k ≤ n ∧ i = .int .i64 k ∧ wr.ownsRow w.heap.size 3 1 v k (I (sides k)) ∧ Below w.heap.size w wr) (fun _ i _ => n - (intOf i).toNat)
  case atStart => exact ⟨0, Nat.zero_le _, rfl, World.ownsRow_nil _ _ _ _, Below.refl _ _⟩
  case round =>
    obtain ⟨k, hk, rfl, hown, hbel⟩ := hrel
    have hz := hbel.size
    by_cases hlt : k < n
    · go_wp2_with (at_builtin; go_must (refine push1 rfl _ _ rfl wr w.heap.size _ k (sides k) k rfl rfl (by exact hown) hz (by omega) ?_))
      intro g cap w1 hown1 hgr _ _
      have hb1 : Below w.heap.size w w1 := hbel.grown hgr hz (own_not hown)
      clear hgr hown hbel
      go_wp2
      go_roundw
      case rel => exact ⟨k + 1, by omega, by go_num, by rw [sides_succ]; exact hown1, hb1⟩
      case measure => simp [intOf]; omega
    · obtain rfl : k = n := by omega
      go_wp2
      go_ret
      exact ⟨_, rfl, hown, hbel⟩

/-- slices.Delete of one element of a row of the caller's own. -/
theorem delete_own (base g n cap k : Nat) (l : List Int) (w : World) (hown : w.ownsRow base 3 1 (.slice (some ⟨g, 0, none⟩) n cap) n (I l)) (hk : k < n) :
    Calls Try.prog 33 #[.slice (some ⟨g, 0, none⟩) n cap, .int .i64 k, .int .i64 ((k : Int) + 1)] w fun e w' =>
      e = .returned (.slice (some ⟨g, 0, none⟩) (n - 1) cap) ∧ w'.ownsRow base 3 1 (.slice (some ⟨g, 0, none⟩) (n - 1) cap) (n - 1) (I (l.eraseIdx k)) ∧ w.grownBy w' (some g) := by
  obtain ⟨g', cap', hv, _, _, hnc, hcm, hl, hH⟩ := Lib.holds_of_ownsRow hown (by simp)
  injection hv with hv1 _ hv3
  injection hv1 with hv1
  injection hv1 with hv1
  subst hv1; subst hv3
  have h := Try.slices_Delete_int g 0 cap k (k + 1) l w hH (by omega) (by unfold maxLen at hcm; omega) (by omega) (by omega)
  rw [hl] at h
  have e1 : k + 1 - k = 1 := by omega
  rw [e1] at h
  refine h.mono ?_
  rintro e w' ⟨rfl, q, rfl⟩
  refine ⟨rfl, ?_, putRow_grown _ _ _ _ _ _⟩
  have h2 := Lib.ownsRow_putRow (q := q) (k := n - 1) (ys := l.take k ++ l.drop (k + 1) ++ List.replicate 1 0) hown (by simp; omega) (by omega)
  have e2 : (l.take k ++ l.drop (k + 1) ++ List.replicate 1 0).take (n - 1) = l.eraseIdx k := by
    rw [List.eraseIdx_eq_take_drop_succ, List.take_append_of_le_length (by simp; omega), List.take_of_length_le (by simp; omega)]
  rw [e2] at h2
  exact h2

set_option maxHeartbeats 1000000 in
theorem orderOf_any (n : Nat) (a : Option Addr) (m c : Nat) (l : List Int) (w : World) (B : Nat) (hB : B ≤ w.heap.size) (hr : Rd w B a m l) (h1 : 1 ≤ n) (h6 : n ≤ 6) (hwf : ∀ x ∈ l, -9223372036854775808 ≤ x ∧ x ≤ 9223372036854775807) :
    Calls Try.prog 23 #[.int .i64 n, .slice a m c] w fun e w' => ∃ v, e = .returned v ∧ w'.ownsRow w.heap.size 3 1 v n (I (ordOf n l)) ∧ Below w.heap.size w w' := by
  have HR := Lib.hid hr
  have HW := Lib.hid hwf
  clear hr hwf
  go_enter Try.func23, Try.ntmps23
  go_wp2_with fail
  refine (sides_any n w (by omega)).mono ?_
  rintro e w1 ⟨v, rfl, hown, hb⟩
  obtain ⟨gl, cl, rfl, hg1, hg2, _⟩ := own_form hown h1
  have hz1 := hb.size
  go_wp2_with fail
  go_loopw [5, 6, 12] (fun s5 s6 i wr => ∃ k cl : Nat, k ≤ n ∧ i = .int .i64 k ∧ s5 = .slice (some ⟨gl, 0, none⟩) (n - k) cl ∧ wr.ownsRow w.heap.size 3 1 (.slice (some ⟨gl, 0, none⟩) (n - k) cl) (n - k) (I (ordTo n l k).2) ∧
      wr.ownsRow w.heap.size 3 1 s6 k (I (ordTo n l k).1) ∧ s6.ownBlock ≠ some gl ∧ Below w.heap.size w wr) (fun _ _ i _ => n - (intOf i).toNat)
  case atStart => exact ⟨0, cl, Nat.zero_le _, rfl, rfl, hown, World.ownsRow_nil _ _ _ _, by simp [Value.ownBlock], hb⟩
  case round =>
    obtain ⟨k, cl, hk, rfl, rfl, hl1, ho1, hne, hbel⟩ := hrel
    have hz := hbel.size
    have HNE := Lib.hid hne
    clear hown hb hne
    by_cases hlt : k < n
    · have hlen := ordTo_len2 n l k hk
      have hpk := pickK_lt (l := l) (left := (ordTo n l k).2) (i := k) (by omega)
      have HP : Hid ((ordTo n l (k + 1)).1 = (ordTo n l k).1 ++ [(ordTo n l k).2.getD (pickK l (ordTo n l k).2 k) 0]) := rfl
      have HQ : Hid ((ordTo n l (k + 1)).2 = (ordTo n l k).2.eraseIdx (pickK l (ordTo n l k).2 k)) := rfl
      have HK : Hid (pickK l (ordTo n l k).2 k = if k < l.length then ((l.getD k 0) % (((n - k : Nat)) : Int)).toNat else 0) := by unfold pickK; rw [hlen]; exact rfl
      rw [hlen] at hpk
      clear hlen
      generalize (ordTo n l k).1 = outs at *
      generalize (ordTo n l k).2 = lefts at *
      generalize pickK l lefts k = kk at *
      have hcl : wr.cell? ⟨gl, kk, none⟩ = some (.int .i64 (lefts.getD kk 0)) := by
        obtain ⟨g', c', hv, _, _, _, _, hc⟩ := own_form hl1 (by omega)
        injection hv with hv1
        injection hv1 with hv1
        injection hv1 with hv1
        subst hv1
        exact hc kk hpk
      have hgl : gl < wr.heap.size := (hl1.lt gl rfl).2
      have hll := (HR.out).1
      have HLL := Lib.hid hll
      clear hll
      by_cases hkm : k < m
      · obtain ⟨b, o, rfl, hbB, hca⟩ := HR.out.at_ hkm
        have hcx : wr.cell? ⟨b, o + k, none⟩ = some (.int .i64 (l.getD k 0)) := (hbel.cell (by show b < _; omega)).trans hca
        clear hca
        have hwx := HW.out (l.getD k 0) (getD_mem l k (by rw [HLL.out]; exact hkm))
        have hkk : l.getD k 0 % ((n - k : Nat) : Int) = (kk : Int) := by
          have := HK.out
          rw [HLL.out, if_pos hkm] at this
          have h0 := Int.emod_nonneg (l.getD k 0) (show ((n - k : Nat) : Int) ≠ 0 by omega)
          omega
        have HKK := Lib.hid hkk
        clear hkk
        generalize l.getD k 0 = x at *
        go_wp2_with fail
        refine (within_any x ((n - k : Nat) : Int) wr hwx.1 hwx.2 (by omega) (by omega)).mono ?_
        rintro e w' ⟨rfl, rfl⟩
        rw [HKK.out]
        go_wp2_with (at_builtin; refine push1 rfl _ _ rfl wr w.heap.size _ k outs (lefts.getD kk 0) rfl rfl (by exact ho1) hz (by omega) ?_)
        intro g cap w1 hown1 hgr hg3 hg4
        have hb1 : Below w.heap.size w w1 := hbel.grown hgr hz (own_not ho1)
        have hl2 := hl1.kept hgr (.inr (Ne.symm HNE.out))
        have hng : g ≠ gl := by
          rcases hg3 with hg3 | hg3
          · intro e; subst e; exact HNE.out hg3
          · omega
        have hz3 := hb1.size
        clear hgr hg3 ho1 hbel hl1 hcl hcx
        go_wp2_with fail
        refine (delete_own w.heap.size gl (n - k) cl kk lefts w1 hl2 hpk).mono ?_
        rintro e w2 ⟨rfl, hl3, hgr2⟩
        have hb2 : Below w.heap.size w w2 := hb1.grown hgr2 hz3 (fun j hj => by injection hj with hj; omega)
        have ho2 := hown1.kept hgr2 (.inr (by simpa [Value.ownBlock] using hng))
        have e1 : n - k - 1 = n - (k + 1) := by omega
        rw [e1] at hl3 ⊢
        clear hgr2 hown1 hl2 hb1
        go_wp2
        go_roundw
        case rel => exact ⟨k + 1, cl, by omega, by go_num, rfl, by rw [HQ.out]; exact hl3, by rw [HP.out]; exact ho2, by simpa [Value.ownBlock] using hng, hb2⟩
        case measure => simp [intOf]; omega
      · have hk0 : kk = 0 := by
          have := HK.out
          rw [HLL.out, if_neg hkm] at this
          exact this
        subst hk0
        have hcl0 : wr.cell? ⟨gl, 0, none⟩ = some (.int .i64 (lefts.getD 0 0)) := hcl
        generalize lefts.getD 0 0 = y at *
        go_wp2_with (at_builtin; refine push1 rfl _ _ rfl wr w.heap.size _ k outs y rfl rfl (by exact ho1) hz (by omega) ?_)
        intro g cap w1 hown1 hgr hg3 hg4
        have hb1 : Below w.heap.size w w1 := hbel.grown hgr hz (own_not ho1)
        have hl2 := hl1.kept hgr (.inr (Ne.symm HNE.out))
        have hng : g ≠ gl := by
          rcases hg3 with hg3 | hg3
          · intro e; subst e; exact HNE.out hg3
          · omega
        have hz3 := hb1.size
        clear hgr hg3 ho1 hbel hl1 hcl hcl0
        go_wp2_with fail
        refine (delete_own w.heap.size gl (n - k) cl 0 lefts w1 hl2 hpk).mono ?_
        rintro e w2 ⟨rfl, hl3, hgr2⟩
        have hb2 : Below w.heap.size w w2 := hb1.grown hgr2 hz3 (fun j hj => by injection hj with hj; omega)
        have ho2 := hown1.kept hgr2 (.inr (by simpa [Value.ownBlock] using hng))
        have e1 : n - k - 1 = n - (k + 1) := by omega
        rw [e1] at hl3 ⊢
        clear hgr2 hown1 hl2 hb1
        go_wp2
        go_roundw
        case rel => exact ⟨k + 1, cl, by omega, by go_num, rfl, by rw [HQ.out]; exact hl3, by rw [HP.out]; exact ho2, by simpa [Value.ownBlock] using hng, hb2⟩
        case measure => simp [intOf]; omega
    · obtain rfl : k = n := by omega
      go_wp2
      go_ret
      exact ⟨_, rfl, ho1, hbel⟩
end Go.Proofs.Ytdbejalcedpdjaa

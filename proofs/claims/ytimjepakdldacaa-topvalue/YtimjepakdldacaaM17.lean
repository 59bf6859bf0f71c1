/-
  Several of our texts, one behind the other, each under its own words; no condition but those that each states.
-/
import Derived.Test.YtimjepakdldacaaProg
import Derived.Test.YtimjepakdldacaaPureA
import Derived.Deep.AppendLies
import Derived.Deep.DeepMust
import Derived.OwnWalk
import Derived.WalkKit
import Derived.KernelRfl
import Derived.Laws.NewBlocks
import Derived.Laws.ResultCell
import Derived.Deep.QuietTactic
import Derived.BigQuiet
/-
  append of one slice of ints to a row of slices.
-/
namespace Go.Proofs.Ytimjepakdldacaa
open Go.RowKit Fm
set_option linter.unusedVariables false

theorem info_ints : (Try.prog.info? 27).map (fun i => (i.zero, i.size, i.bytes)) = some (some (.slice none 0 0), 1, 24) := by kernel_rfl

/-- append(v, s), v a row of slices of the call's own, the slice s laid in a new block first. -/
theorem pushS {ops : Array Oper} {rest : List Oper} {o : Oper} {a : Act} {Q : Exit → Act → World → Prop} (hgd : o.guard = none) (s x : Operand)
    (ho : o.op = .call { callee := .builtin .append, args := #[s, x], argTypes := #[22, 22] })
    (w : World) (base : Nat) (v : Value) (n : Nat) (vs : List Value) (ya : Option Addr) (yn yc : Nat) (hs : a.eval s = v) (hx : a.eval x = .slice (some ⟨w.heap.size, 0, none⟩) 1 1)
    (hown : w.ownsRow base 27 1 v n vs) (hbase : base ≤ w.heap.size) (hn : n ≤ 1000000)
    (h : ∀ g cap w', w'.ownsRow base 27 1 (.slice (some ⟨g, 0, none⟩) (n + 1) cap) (n + 1) (vs ++ [.slice ya yn yc]) → w.grownBy w' v.ownBlock → (v.ownBlock = some g ∨ w.heap.size < g) → g < w'.heap.size →
      wpList Try.prog ops Q rest (a.put o.dst (.slice (some ⟨g, 0, none⟩) (n + 1) cap)) w') : wpList Try.prog ops Q (o :: rest) a (w.alloc (.cells #[.slice ya yn yc] 27)) := by
  obtain ⟨i0, hi, hz0, hz1, hz2⟩ := info_parts info_ints
  refine wpList_append_lies _ hgd s x 22 ho base 27 i0 (.slice none 0 0) 1 24 Try.underlying22 hi hz0 hz1 hz2 rfl (by decide) v n vs hs (hown.alloc _) ⟨w.heap.size, 0, none⟩ 1 1 [.slice ya yn yc] hx rfl ?_ ?_ (by decide) ?_ ?_ ?_ (w.heap.size + 1) (by simp) ?_
  · intro j u hj
    match j, hj with
    | 0, hj => simp at hj; subst hj; simp [Addr.add, World.cell?_alloc_new]
  · intro u hu; simp at hu; subst hu; rfl
  · unfold maxLen; omega
  · omega
  · simp; omega
  · intro g cap w' h1 h2 h3 h4
    refine h g cap w' h1 ?_ ?_ h4
    · refine ⟨h2.os, h2.tape, h2.output, Nat.le_trans (by simp) h2.size, fun k hk hne => ?_⟩
      rw [h2.block k (by simp; omega) hne]
      exact Below.heap_alloc w _ k hk
    · rcases h3 with h3 | h3
      · exact .inl h3
      · right; omega
/-- append(v, s), v a row of slices of the call's own, the slice s laid in a new block first. -/
theorem pushSB {ops : Array Oper} {rest : List Oper} {o : Oper} {a : Act} {Q : Exit → Act → World → Prop} (hgd : o.guard = none) (s x : Operand)
    (ho : o.op = .call { callee := .builtin .append, args := #[s, x], argTypes := #[22, 22] })
    (w : World) (base : Nat) (v : Value) (n : Nat) (vs : List Value) (ya : Option Addr) (yn yc : Nat) (hs : a.eval s = v) (hx : a.eval x = .slice (some ⟨w.heap.size, 0, none⟩) 1 1)
    (hown : w.ownsRow base 27 1 v n vs) (hbase : base ≤ w.heap.size) (hn : (n + 1) * 24 ≤ 140737488355328)
    (h : ∀ g cap w', w'.ownsRow base 27 1 (.slice (some ⟨g, 0, none⟩) (n + 1) cap) (n + 1) (vs ++ [.slice ya yn yc]) → w.grownBy w' v.ownBlock → (v.ownBlock = some g ∨ w.heap.size < g) → g < w'.heap.size →
      wpList Try.prog ops Q rest (a.put o.dst (.slice (some ⟨g, 0, none⟩) (n + 1) cap)) w') : wpList Try.prog ops Q (o :: rest) a (w.alloc (.cells #[.slice ya yn yc] 27)) := by
  obtain ⟨i0, hi, hz0, hz1, hz2⟩ := info_parts info_ints
  refine wpList_append_lies _ hgd s x 22 ho base 27 i0 (.slice none 0 0) 1 24 Try.underlying22 hi hz0 hz1 hz2 rfl (by decide) v n vs hs (hown.alloc _) ⟨w.heap.size, 0, none⟩ 1 1 [.slice ya yn yc] hx rfl ?_ ?_ (by decide) ?_ ?_ ?_ (w.heap.size + 1) (by simp) ?_
  · intro j u hj
    match j, hj with
    | 0, hj => simp at hj; subst hj; simp [Addr.add, World.cell?_alloc_new]
  · intro u hu; simp at hu; subst hu; rfl
  · unfold maxLen; omega
  · omega
  · simp; omega
  · intro g cap w' h1 h2 h3 h4
    refine h g cap w' h1 ?_ ?_ h4
    · refine ⟨h2.os, h2.tape, h2.output, Nat.le_trans (by simp) h2.size, fun k hk hne => ?_⟩
      rw [h2.block k (by simp; omega) hne]
      exact Below.heap_alloc w _ k hk
    · rcases h3 with h3 | h3
      · exact .inl h3
      · right; omega
end Go.Proofs.Ytimjepakdldacaa

/-
  order.Check answers chk, for every int and every slice of ints; nothing that was there is written.
-/
namespace Go.Proofs.Ytimjepakdldacaa
open Go.RowKit Fm
set_option linter.unusedVariables false

/-- The marks of the alternatives that stand in t. -/
def seen (t : List Int) : Array Value := #[.bool (decide ((0 : Int) ∈ t)), .bool (decide ((1 : Int) ∈ t)), .bool (decide ((2 : Int) ∈ t)), .bool (decide ((3 : Int) ∈ t)), .bool (decide ((4 : Int) ∈ t)), .bool (decide ((5 : Int) ∈ t))]

theorem seen_at (t : List Int) {i : Nat} (h : i < 6) : (seen t)[i]? = some (.bool (decide ((i : Int) ∈ t))) := by
  match i, h with
  | 0, _ => rfl
  | 1, _ => rfl
  | 2, _ => rfl
  | 3, _ => rfl
  | 4, _ => rfl
  | 5, _ => rfl
theorem seen_true {t : List Int} {i : Nat} (h : i < 6) (hi : (i : Int) ∈ t) : (seen t)[i]? = some (.bool true) := by rw [seen_at t h]; simp [hi]
theorem seen_false {t : List Int} {i : Nat} (h : i < 6) (hi : (i : Int) ∉ t) : (seen t)[i]? = some (.bool false) := by rw [seen_at t h]; simp [hi]
theorem seen_size (t : List Int) : (seen t).size = 6 := rfl
theorem seen_set (t : List Int) (i : Nat) : (seen t).setIfInBounds i (.bool true) = seen (t ++ [(i : Int)]) := by
  apply Array.ext
  · simp [seen_size]
  · intro j h1 h2
    have hj : j < 6 := by simpa [seen_size] using h1
    have e := seen_at (t ++ [(i : Int)]) hj
    have f := seen_at t hj
    rw [Array.getElem?_eq_getElem h2] at e
    injection e with e
    rw [e, Array.getElem_setIfInBounds (by rw [seen_size]; exact hj)]
    split
    · rename_i he; subst he; simp
    · rename_i hne
      have hne' : ¬ (j : Int) = (i : Int) := by omega
      rw [Array.getElem?_eq_getElem (by rw [seen_size]; exact hj)] at f
      injection f with f
      rw [f]
      simp [hne']

set_option maxHeartbeats 400000 in
set_option maxRecDepth 100000 in
theorem check_arg (n : Int) (a : Option Addr) (k c : Nat) (w : World) (hn : n < 1 ∨ 6 < n) :
    Calls Try.prog 61 #[.int .i64 n, .slice a k c] w fun e w' => e = .returned (.int .i64 1) ∧ w = w' := by
  rcases hn with hn | hn
  · go_enter Try.func61, Try.ntmps61
    go_wp2
    go_ret
    exact ⟨rfl, rfl⟩
  · have h1 : ¬ n < 1 := by omega
    go_enter Try.func61, Try.ntmps61
    go_wp2
    go_ret
    exact ⟨rfl, rfl⟩

set_option maxHeartbeats 400000 in
set_option maxRecDepth 100000 in
theorem check_len (n : Int) (a : Option Addr) (k c : Nat) (w : World) (h1 : ¬ n < 1) (h2 : ¬ 6 < n) (hk : (k : Int) ≠ n) :
    Calls Try.prog 61 #[.int .i64 n, .slice a k c] w fun e w' => e = .returned (.int .i64 3) ∧ w = w' := by
  have hb : ((k : Int) != n) = true := by simpa using hk
  clear hk
  go_enter Try.func61, Try.ntmps61
  go_wp2
  go_ret
  exact ⟨rfl, rfl⟩

set_option maxHeartbeats 400000 in
set_option maxRecDepth 100000 in
theorem check_go (a : Option Addr) (k c : Nat) (l : List Int) (w : World) (B : Nat) (hB : B ≤ w.heap.size) (h1 : 1 ≤ k) (h2 : k ≤ 6) (hr : Rd w B a k l) (r : Int) (hres : r = if isOrd k l then 0 else 3) :
    Calls Try.prog 61 #[.int .i64 k, .slice a k c] w fun e w' => e = .returned (.int .i64 r) ∧ Below w.heap.size w w' := by
  have HR := Lib.hid hres
  clear hres
  have bel : ∀ t, Below w.heap.size w (w.alloc (.cells (seen t) 87)) := fun t => (Below.refl _ _).alloc (Nat.le_refl _) _
  obtain ⟨hl, hr⟩ := hr
  obtain ⟨b, o, rfl, hb, hc⟩ := hr (by omega)
  have HL := Lib.hid hl
  have HC := Lib.hid hc
  clear hl hc hr
  go_enter Try.func61, Try.ntmps61
  go_wp2
  go_loopw [20] (fun i wr => ∃ j : Nat, j ≤ k ∧ i = .int .i64 j ∧ wr = w.alloc (.cells (seen (l.take j)) 87) ∧ isOrd k (l.take j)) (fun i _ => k - (intOf i).toNat)
  case atStart => exact ⟨0, Nat.zero_le _, rfl, rfl, by simp [isOrd]⟩
  case round =>
    obtain ⟨j, hj, rfl, rfl, ho⟩ := hrel
    have HO := Lib.hid ho
    clear ho
    by_cases hlt : j < k
    · have hcj : ∀ ob, (w.alloc ob).cell? ⟨b, o + j, none⟩ = some (.int .i64 (l.getD j 0)) := fun ob => (World.cell?_alloc_lt w ob ⟨b, o + j, none⟩ (by show b < _; omega)).trans (HC.out j hlt)
      have hs : l.take (j + 1) = l.take j ++ [l.getD j 0] := take_succ_getD l j (by rw [HL.out]; exact hlt)
      have HS := Lib.hid hs
      clear hs
      have hbw : ¬ b = w.heap.size := by omega
      generalize hx : l.getD j 0 = x at *
      have HX := Lib.hid hx
      clear hx
      by_cases hneg : x < 0
      · have hno : r = 3 := by
          rw [HR.out, if_neg (fun h => ?_)]
          have := isOrd_take (j + 1) h
          rw [HS.out, isOrd_snoc] at this
          omega
        have HN := Lib.hid hno
        clear hno
        go_wp2
        go_ret
        exact ⟨by rw [HN.out]; rfl, bel _⟩
      · by_cases hbig : (k : Int) ≤ x
        · have hno : r = 3 := by
            rw [HR.out, if_neg (fun h => ?_)]
            have := isOrd_take (j + 1) h
            rw [HS.out, isOrd_snoc] at this
            omega
          have HN := Lib.hid hno
          clear hno
          go_wp2
          go_ret
          exact ⟨by rw [HN.out]; rfl, bel _⟩
        · obtain ⟨i, rfl⟩ : ∃ i : Nat, x = i := ⟨x.toNat, by omega⟩
          have hi6 : i < 6 := by omega
          by_cases hin : (i : Int) ∈ l.take j
          · have hse : (seen (l.take j))[i]? = some (.bool true) := seen_true hi6 hin
            have hno : r = 3 := by
              rw [HR.out, if_neg (fun h => ?_)]
              have := isOrd_take (j + 1) h
              rw [HS.out, isOrd_snoc] at this
              exact this.2.2.2 hin
            have HN := Lib.hid hno
            clear hno hin
            go_wp2
            go_ret
            exact ⟨by rw [HN.out]; rfl, bel _⟩
          · have hse : (seen (l.take j))[i]? = some (.bool false) := seen_false hi6 hin
            have HI := Lib.hid hin
            clear hin
            go_wp2
            go_roundw
            case rel => exact ⟨j + 1, by omega, by go_num, by rw [HS.out, ← seen_set], by rw [HS.out, isOrd_snoc]; exact ⟨HO.out, by omega, by omega, HI.out⟩⟩
            case measure => simp [intOf]; omega
    · have hno : r = 0 := by
        rw [HR.out, if_pos]
        have := HO.out
        rwa [List.take_of_length_le (by rw [HL.out]; omega)] at this
      have HN := Lib.hid hno
      clear hno
      go_wp2
      go_ret
      exact ⟨by rw [HN.out]; rfl, bel _⟩

/-- order.Check, for every int and every slice. -/
theorem check_any (n : Int) (a : Option Addr) (k c : Nat) (l : List Int) (w : World) (B : Nat) (hB : B ≤ w.heap.size) (hr : Rd w B a k l) :
    Calls Try.prog 61 #[.int .i64 n, .slice a k c] w fun e w' => e = .returned (.int .i64 (chk n l)) ∧ Below w.heap.size w w' := by
  by_cases h : n < 1 ∨ 6 < n
  · rw [chk_arg h]
    exact (check_arg n a k c w h).mono fun e w' ⟨he, hw⟩ => ⟨he, hw ▸ Below.refl _ _⟩
  · by_cases hl : (k : Int) = n
    · subst hl
      refine (check_go a k c l w B hB (by omega) (by omega) hr _ rfl).mono fun e w' ⟨he, hw⟩ => ⟨?_, hw⟩
      rw [he]
      by_cases hb : isOrd k l
      · rw [if_pos hb, chk_ok h (by rw [hr.1]) hb]
      · rw [if_neg hb, chk_bad h (by rw [hr.1]) hb]
    · rw [chk_len h (by rw [hr.1]; exact hl)]
      exact (check_len n a k c w (by omega) (by omega) hl).mono fun e w' ⟨he, hw⟩ => ⟨he, hw ▸ Below.refl _ _⟩
end Go.Proofs.Ytimjepakdldacaa

/-
  order.places: for alternatives from 0 to 5 it returns the array of their indices; nothing that was there is written.
-/
namespace Go.Proofs.Ytimjepakdldacaa
open Go.RowKit Fm
set_option linter.unusedVariables false

/-- Six ints as cells. -/
def six (f : Int → Int) : Array Value := #[.int .i64 (f 0), .int .i64 (f 1), .int .i64 (f 2), .int .i64 (f 3), .int .i64 (f 4), .int .i64 (f 5)]
theorem six_at (f : Int → Int) {i : Nat} (h : i < 6) : (six f)[i]? = some (.int .i64 (f i)) := by
  match i, h with
  | 0, _ => rfl
  | 1, _ => rfl
  | 2, _ => rfl
  | 3, _ => rfl
  | 4, _ => rfl
  | 5, _ => rfl
theorem six_size (f : Int → Int) : (six f).size = 6 := rfl
theorem six_set (f : Int → Int) (i : Nat) (v : Int) : (six f).setIfInBounds i (.int .i64 v) = six (fun y => if (i : Int) = y then v else f y) := by
  apply Array.ext
  · simp [six_size]
  · intro j h1 h2
    have hj : j < 6 := by simpa [six_size] using h1
    have e := six_at (fun y => if (i : Int) = y then v else f y) hj
    have g := six_at f hj
    rw [Array.getElem?_eq_getElem h2] at e
    injection e with e
    rw [e, Array.getElem_setIfInBounds (by rw [six_size]; exact hj)]
    split
    · rename_i he; subst he; simp
    · rename_i hne
      have hne' : ¬ (i : Int) = (j : Int) := by omega
      rw [Array.getElem?_eq_getElem (by rw [six_size]; exact hj)] at g
      injection g with g
      rw [g]
      simp [hne']

set_option maxHeartbeats 400000 in
set_option maxRecDepth 100000 in
theorem places_any (a : Option Addr) (n c : Nat) (q : List Int) (w : World) (B : Nat) (hB : B ≤ w.heap.size) (hr : Rd w B a n q) (hn : n ≤ 6) (hq : ∀ x ∈ q, 0 ≤ x ∧ x < 6) :
    Calls Try.prog 62 #[.slice a n c] w fun e w' => e = .returned (.agg (six (atTo q n))) ∧ Below w.heap.size w w' := by
  obtain ⟨hl, hr⟩ := hr
  have HL := Lib.hid hl
  have HR := Lib.hid hr
  have HQ := Lib.hid hq
  clear hl hr hq
  go_enter Try.func62, Try.ntmps62
  go_wp2
  go_loopw [8] (fun i wr => ∃ j : Nat, j ≤ n ∧ i = .int .i64 j ∧ wr = (w.alloc (.cells (six fun _ => 0) 79)).alloc (.cells (six (atTo q j)) 79)) (fun i _ => n - (intOf i).toNat)
  case atStart => exact ⟨0, Nat.zero_le _, rfl, rfl⟩
  case round =>
    obtain ⟨j, hj, rfl, rfl⟩ := hrel
    by_cases hlt : j < n
    · obtain ⟨b, o, rfl, hb, hc⟩ := HR.out (by omega)
      have hcj : ∀ o1 o2, ((w.alloc o1).alloc o2).cell? ⟨b, o + j, none⟩ = some (.int .i64 (q.getD j 0)) := fun o1 o2 => by
        rw [World.cell?_alloc_lt _ _ _ (by simp; omega), World.cell?_alloc_lt _ _ _ (by show b < _; omega)]
        exact hc j hlt
      clear hc
      have hx2 := HQ.out (q.getD j 0) (getD_mem q j (by rw [HL.out]; exact hlt))
      have hs : atTo q (j + 1) = fun y => if q.getD j 0 = y then (j : Int) else atTo q j y := rfl
      have HS := Lib.hid hs
      clear hs
      generalize q.getD j 0 = x at *
      obtain ⟨i, rfl⟩ : ∃ i : Nat, x = i := ⟨x.toNat, by omega⟩
      have hse : (six (atTo q j))[i]? = some (.int .i64 (atTo q j i)) := six_at _ (by omega)
      go_wp2
      go_roundw
      case rel => exact ⟨j + 1, by omega, by go_num, by rw [HS.out, ← six_set]⟩
      case measure => simp [intOf]; omega
    · obtain rfl : j = n := by omega
      unfold six
      go_wp2
      exact bodyPost_ret (v := .agg (six (atTo q j))) (by simp [results, Try.results62, go_sem, six]) rfl ⟨rfl, ((Below.refl _ _).alloc (Nat.le_refl _) _).alloc (by simp) _⟩
end Go.Proofs.Ytimjepakdldacaa

/-
  order.Far answers as farD and farE say, for every two slices of ints; nothing that was there is written.
-/
namespace Go.Proofs.Ytimjepakdldacaa
open Go.RowKit Fm
set_option linter.unusedVariables false

set_option maxHeartbeats 400000 in
set_option maxRecDepth 100000 in
theorem far_p (p : List Int) (a a2 : Option Addr) (n c n2 c2 : Nat) (w : World) (B : Nat) (hB : B ≤ w.heap.size) (hp : Rd w B a n p) (r : Int) (hr : chk n p = r) (hr0 : r ≠ 0) :
    Calls Try.prog 48 #[.slice a n c, .slice a2 n2 c2] w fun e w' => e = .returned (.tuple #[.int .i64 0, .int .i64 r]) ∧ Below w.heap.size w w' := by
  have hne : (r != 0) = true := by simpa using hr0
  have HR := Lib.hid hr
  clear hr hr0
  go_enter Try.func48, Try.ntmps48
  go_wp2_with fail
  refine (check_any n a n c p w B hB hp).mono ?_
  rintro e w1 ⟨rfl, hb⟩
  rw [HR.out]
  go_wp2
  go_ret2
  exact ⟨rfl, hb⟩

set_option maxHeartbeats 400000 in
set_option maxRecDepth 100000 in
theorem far_q (p q : List Int) (a a2 : Option Addr) (n c n2 c2 : Nat) (w : World) (B : Nat) (hB : B ≤ w.heap.size) (hp : Rd w B a n p) (hq : Rd w B a2 n2 q) (h0 : chk n p = 0) (r : Int) (hr : chk n q = r) (hr0 : r ≠ 0) :
    Calls Try.prog 48 #[.slice a n c, .slice a2 n2 c2] w fun e w' => e = .returned (.tuple #[.int .i64 0, .int .i64 r]) ∧ Below w.heap.size w w' := by
  have hne : (r != 0) = true := by simpa using hr0
  have HR := Lib.hid hr
  have H0 := Lib.hid h0
  clear hr hr0 h0
  go_enter Try.func48, Try.ntmps48
  go_wp2_with fail
  refine (check_any n a n c p w B hB hp).mono ?_
  rintro e w1 ⟨rfl, hb⟩
  rw [H0.out]
  have hz := hb.size
  go_wp2_with fail
  refine (check_any n a2 n2 c2 q w1 B (by omega) (hq.below hb hB)).mono ?_
  rintro e w2 ⟨rfl, hb2⟩
  rw [HR.out]
  go_wp2
  go_ret2
  exact ⟨rfl, hb.trans (hb2.mono hz)⟩

set_option maxHeartbeats 1000000 in
set_option maxRecDepth 100000 in
theorem far_ok (p q : List Int) (a a2 : Option Addr) (n c c2 : Nat) (w : World) (B : Nat) (hB : B ≤ w.heap.size) (hp : Rd w B a n p) (hq : Rd w B a2 n q) (hnc : n ≤ c) (h0 : chk n p = 0) (h02 : chk n q = 0)
    (hp6 : ∀ x ∈ p, 0 ≤ x ∧ x < 6) (hq6 : ∀ x ∈ q, 0 ≤ x ∧ x < 6) (hn1 : 1 ≤ n) (hn6 : n ≤ 6) (d : Int) (hd : d = inv p q) :
    Calls Try.prog 48 #[.slice a n c, .slice a2 n c2] w fun e w' => e = .returned (.tuple #[.int .i64 d, .int .i64 0]) ∧ Below w.heap.size w w' := by
  have H02 := Lib.hid h02
  have H0 := Lib.hid h0
  have HP := Lib.hid hp6
  have HD := Lib.hid hd
  clear h0 h02 hp6 hd
  go_enter Try.func48, Try.ntmps48
  go_wp2_with fail
  refine (check_any n a n c p w B hB hp).mono ?_
  rintro e w1 ⟨rfl, hb1⟩
  rw [H0.out]
  have hz1 := hb1.size
  go_wp2_with fail
  refine (check_any n a2 n c2 q w1 B (by omega) (hq.below hb1 hB)).mono ?_
  rintro e w2 ⟨rfl, hb2⟩
  rw [H02.out]
  have hz2 := hb2.size
  go_wp2_with fail
  refine (places_any a2 n c2 q w2 B (by omega) ((hq.below hb1 hB).below hb2 (by omega)) hn6 hq6).mono ?_
  rintro e w3 ⟨rfl, hb3⟩
  have hz3 := hb3.size
  have hb : Below w.heap.size w w3 := (hb1.trans (hb2.mono hz1)).trans (hb3.mono (by omega))
  have hp3 := hp.below hb hB
  have HLP := Lib.hid hp.1
  have HLQ := Lib.hid hq.1
  have HP3 := Lib.hid hp3.2
  clear hb1 hb2 hb3 hq hp hp3 hq6
  unfold six
  go_wp2
  have HF : Hid (∀ i : Nat, i < 6 → (six (atTo q n))[i]? = some (.int .i64 (atTo q n i))) := fun i hi => six_at _ hi
  go_loopw [10, 33] (fun s i wr => ∃ k m : Nat, k ≤ n ∧ i = .int .i64 k ∧ s = .int .i64 (invTo (atTo q n) p k) ∧ wr = (w3.alloc (.cells (six (atTo q n)) 79)).drewN m) (fun _ i _ => n - (intOf i).toNat)
  case atStart => exact ⟨0, 0, Nat.zero_le _, rfl, rfl, rfl⟩
  case round =>
    obtain ⟨k, m, hk, rfl, rfl, rfl⟩ := hrel
    by_cases hlt : k < n
    · obtain ⟨b, o, rfl, hbB, hc⟩ := HP3.out (by omega)
      have HC := Lib.hid hc
      clear hc
      have hck : ∀ o1, (w3.alloc o1).cell? ⟨b, o + k, none⟩ = some (.int .i64 (p.getD k 0)) := fun o1 => by
        rw [World.cell?_alloc_lt _ _ _ (by show b < _; omega)]; exact HC.out k hlt
      have hx := HP.out (p.getD k 0) (getD_mem p k (by rw [HLP.out]; exact hlt))
      have HS : Hid (invTo (atTo q n) p (k + 1) = invTo (atTo q n) p k + lower (atTo q n) (p.getD k 0) (p.drop (k + 1))) := rfl
      have hle := invTo_le (atTo q n) p k
      rw [HLP.out] at hle
      have hle2 : k * n ≤ 6 * 6 := Nat.mul_le_mul (by omega) hn6
      have hIk : invTo (atTo q n) p k ≤ 36 := by omega
      clear hle hle2
      generalize p.getD k 0 = x at *
      generalize invTo (atTo q n) p k = s at *
      obtain ⟨i, rfl⟩ : ∃ i : Nat, x = i := ⟨x.toNat, by omega⟩
      have hfi := HF.out i (by omega)
      have hlen : (p.drop (k + 1)).length = n - (k + 1) := by rw [List.length_drop, HLP.out]
      have HLD := Lib.hid hlen
      clear hlen
      by_cases hcc : c = k + 1
      all_goals
        go_wp2
        go_loopw [10, 43] (fun s10 i43 wr => ∃ j m' : Nat, j ≤ n - (k + 1) ∧ i43 = .int .i64 j ∧ s10 = .int .i64 ((s : Int) + (lower (atTo q n) i ((p.drop (k + 1)).take j) : Nat)) ∧ wr = (w3.alloc (.cells (six (atTo q n)) 79)).drewN m') (fun _ i43 _ => n - (k + 1) - (intOf i43).toNat)
        case atStart => exact ⟨0, m, Nat.zero_le _, rfl, by simp [lower], rfl⟩
        case round =>
          obtain ⟨j, m', hj, rfl, rfl, rfl⟩ := hrel
          by_cases hjl : j < n - (k + 1)
          · try (exfalso; omega)
            all_goals
              have hcy : ∀ o1, (w3.alloc o1).cell? ⟨b, o + (k + 1) + j, none⟩ = some (.int .i64 ((p.drop (k + 1)).getD j 0)) := fun o1 => by
                rw [World.cell?_alloc_lt _ _ _ (by show b < _; omega), Nat.add_assoc, HC.out (k + 1 + j) (by omega)]
                simp [List.getD_eq_getElem?_getD, List.getElem?_drop]
              have hy := HP.out ((p.drop (k + 1)).getD j 0) (List.mem_of_mem_drop (getD_mem _ j (by rw [HLD.out]; exact hjl)))
              have hsn : (p.drop (k + 1)).take (j + 1) = (p.drop (k + 1)).take j ++ [(p.drop (k + 1)).getD j 0] := take_succ_getD _ j (by rw [HLD.out]; exact hjl)
              have HN : Hid (lower (atTo q n) i ((p.drop (k + 1)).take (j + 1)) = lower (atTo q n) i ((p.drop (k + 1)).take j) + if atTo q n ((p.drop (k + 1)).getD j 0) < atTo q n i then 1 else 0) := by rw [hsn, lower_snoc]; exact rfl
              have hll := lower_le (atTo q n) i ((p.drop (k + 1)).take j)
              have hl2 : ((p.drop (k + 1)).take j).length ≤ 6 := by rw [List.length_take]; omega
              have hll6 : lower (atTo q n) i ((p.drop (k + 1)).take j) ≤ 6 := by omega
              clear hsn hll hl2
              generalize (p.drop (k + 1)).getD j 0 = y at *
              generalize lower (atTo q n) i ((p.drop (k + 1)).take j) = t at *
              obtain ⟨i2, rfl⟩ : ∃ i2 : Nat, y = i2 := ⟨y.toNat, by omega⟩
              have hfj := HF.out i2 (by omega)
              by_cases hcmp : atTo q n i2 < atTo q n i
              · go_wp2
                go_quiet (fail)
                go_wp2
                go_roundw
                case rel => exact ⟨j + 1, _, by omega, by go_num, by rw [HN.out, if_pos hcmp]; go_num, rfl⟩
                case measure => simp [intOf]; omega
              · go_wp2
                go_quiet (fail)
                go_wp2
                go_roundw
                case rel => exact ⟨j + 1, _, by omega, by go_num, by rw [HN.out, if_neg (by omega)]; go_num, rfl⟩
                case measure => simp [intOf]; omega
          · have hjt : (p.drop (k + 1)).take j = p.drop (k + 1) := List.take_of_length_le (by rw [HLD.out]; omega)
            have HJ := Lib.hid hjt
            clear hjt
            go_wp2
            go_roundw
            case rel => exact ⟨k + 1, _, by omega, by go_num, by rw [HJ.out, HS.out]; go_num, rfl⟩
            case measure => simp [intOf]; omega
    · obtain rfl : k = n := by omega
      have hdd : d = invTo (atTo q k) p k := by rw [HD.out]; unfold inv; rw [HLP.out, HLQ.out]
      have HDD := Lib.hid hdd
      clear hdd
      go_wp2
      go_ret2
      exact ⟨by rw [HDD.out]; rfl, below_drewN (hb.alloc (by omega) _) _⟩

/-- What order.Far answers. -/
def farE (p q : List Int) : Int := if chk p.length p ≠ 0 then chk p.length p else chk p.length q
def farD (p q : List Int) : Int := if farE p q = 0 then inv p q else 0

theorem far_any (p q : List Int) (a a2 : Option Addr) (n c n2 c2 : Nat) (w : World) (B : Nat) (hB : B ≤ w.heap.size) (hp : Rd w B a n p) (hq : Rd w B a2 n2 q) (hnc : n ≤ c) :
    Calls Try.prog 48 #[.slice a n c, .slice a2 n2 c2] w fun e w' => e = .returned (.tuple #[.int .i64 (farD p q), .int .i64 (farE p q)]) ∧ Below w.heap.size w w' := by
  have hlp := hp.1
  have hlq := hq.1
  by_cases h0 : chk n p = 0
  · by_cases h1 : chk n q = 0
    · obtain ⟨hr, hl, ho⟩ := chk_zero h1
      obtain ⟨_, _, ho2⟩ := chk_zero h0
      have hn : n2 = n := by omega
      subst hn
      have e1 : farE p q = 0 := by unfold farE; rw [hlp, if_neg (by simpa using h0), h1]
      have e2 : farD p q = inv p q := by unfold farD; rw [if_pos e1]
      rw [e1, e2]
      exact far_ok p q a a2 n2 c c2 w B hB hp hq hnc h0 h1 (fun x hx => ⟨(ho2.1 x hx).1, by have := (ho2.1 x hx).2; omega⟩) (fun x hx => ⟨(ho.1 x hx).1, by have := (ho.1 x hx).2; omega⟩) (by omega) (by omega) _ rfl
    · have e1 : farE p q = chk n q := by unfold farE; rw [hlp, if_neg (by simpa using h0)]
      have e2 : farD p q = 0 := by unfold farD; rw [if_neg (by rw [e1]; exact h1)]
      rw [e1, e2]
      exact far_q p q a a2 n c n2 c2 w B hB hp hq h0 _ rfl h1
  · have e1 : farE p q = chk n p := by unfold farE; rw [hlp, if_pos h0]
    have e2 : farD p q = 0 := by unfold farD; rw [if_neg (by rw [e1]; exact h0)]
    rw [e1, e2]
    exact far_p p a a2 n c n2 c2 w B hB hp _ rfl h0

/-- order.Far at two orders. -/
theorem far_perm {n : Nat} {p q : List Int} (hp : p.Perm (sides n)) (hq : q.Perm (sides n)) (h1 : 1 ≤ n) (h6 : n ≤ 6) (a a2 : Option Addr) (c c2 : Nat) (w : World) (B : Nat) (hB : B ≤ w.heap.size)
    (rp : Rd w B a n p) (rq : Rd w B a2 n q) (hnc : n ≤ c) :
    Calls Try.prog 48 #[.slice a n c, .slice a2 n c2] w fun e w' => e = .returned (.tuple #[.int .i64 (inv p q), .int .i64 0]) ∧ Below w.heap.size w w' := by
  have lp := hp.length_eq
  have lq := hq.length_eq
  rw [sides_len] at lp lq
  have c1 : chk n p = 0 := chk_perm hp h1 h6
  have c2' : chk n q = 0 := chk_perm hq h1 h6
  have e1 : farE p q = 0 := by unfold farE; rw [lp, if_neg (by simpa using c1), c2']
  have e2 : farD p q = inv p q := by unfold farD; rw [if_pos e1]
  have h := far_any p q a a2 n c n c2 w B hB rp rq hnc
  rw [e1, e2] at h
  exact h
end Go.Proofs.Ytimjepakdldacaa

/-
  Orders along a line (single-peaked ones), the one in the middle, and Black's theorems: lists of ints alone, no Go text.
-/
namespace Fm
set_option linter.unusedVariables false

/-- The j-th of the line is after the i-th and after the k-th in p. -/
def lastB (line p : List Int) (i j k : Nat) : Bool := decide (pos p (line.getD i 0) < pos p (line.getD j 0) ∧ pos p (line.getD k 0) < pos p (line.getD j 0))
def alongB (line p : List Int) : Bool := (List.range line.length).all fun k => (List.range k).all fun j => (List.range j).all fun i => !lastB line p i j k
/-- p is single-peaked along the line. -/
def Along (line p : List Int) : Prop := ∀ i j k, i < j → j < k → k < line.length → lastB line p i j k = false
theorem along_iff {line p : List Int} : alongB line p = true ↔ Along line p := by
  unfold alongB Along
  simp only [List.all_eq_true, List.mem_range, Bool.not_eq_true']
  exact ⟨fun h i j k hi hj hk => h k hk j hj i hi, fun h k hk j hj i hi => h i j k hi hj hk⟩
theorem along_not {line p : List Int} {i j k : Nat} (hi : i < j) (hj : j < k) (hk : k < line.length) (h : lastB line p i j k = true) : alongB line p = false := by
  cases hh : alongB line p with
  | false => rfl
  | true => rw [along_iff.1 hh i j k hi hj hk] at h; cases h
theorem Along.not_last {line p : List Int} (h : Along line p) {i j k : Nat} (hi : i < j) (hj : j < k) (hk : k < line.length) : ¬ (pos p (line.getD i 0) < pos p (line.getD j 0) ∧ pos p (line.getD k 0) < pos p (line.getD j 0)) :=
  of_decide_eq_false (h i j k hi hj hk)

section
variable {n : Nat} {line p : List Int}
theorem perm_len (h : p.Perm (sides n)) : p.length = n := by have := h.length_eq; rwa [sides_len] at this
theorem perm_nodup (h : p.Perm (sides n)) : p.Nodup := h.nodup_iff.2 (sides_nodup n)
/-- Between: m lies between a and c on the line: who has a ahead of m has a ahead of c. -/
theorem Along.ahead (hl : line.Perm (sides n)) (h : Along line p) {a m c : Int} (ha : a ∈ line) (hm : m ∈ line) (hc : c ∈ line)
    (hb : (pos line a < pos line m ∧ pos line m < pos line c) ∨ (pos line c < pos line m ∧ pos line m < pos line a)) (hp : pos p a < pos p m) : pos p a < pos p c := by
  have hnd := perm_nodup hl
  obtain ⟨i, hi, hia, hpa⟩ := pos_mem hnd ha
  obtain ⟨j, hj, hjm, hpm⟩ := pos_mem hnd hm
  obtain ⟨k, hk, hkc, hpc⟩ := pos_mem hnd hc
  rw [hpa, hpm, hpc] at hb
  rcases hb with hb | hb
  · have := h.not_last (i := i) (j := j) (k := k) (by omega) (by omega) hk
    rw [hia, hjm, hkc] at this
    omega
  · have := h.not_last (i := k) (j := j) (k := i) (by omega) (by omega) hi
    rw [hia, hjm, hkc] at this
    omega
theorem cnt_ahead (hl : line.Perm (sides n)) {V : List (List Int)} (hV : ∀ p ∈ V, Along line p) {a m c : Int} (ha : a ∈ line) (hm : m ∈ line) (hc : c ∈ line)
    (hb : (pos line a < pos line m ∧ pos line m < pos line c) ∨ (pos line c < pos line m ∧ pos line m < pos line a)) : cnt V a m ≤ cnt V a c := by
  unfold cnt
  apply List.countP_mono_left
  intro p hp h
  exact decide_eq_true ((hV p hp).ahead hl ha hm hc hb (of_decide_eq_true h))
/-- Black: of an odd number of votes along a line, to beat goes on over a third. -/
theorem peak_order (hl : line.Perm (sides n)) {V : List (List Int)} (hVp : ∀ p ∈ V, p.Perm (sides n)) (hV : ∀ p ∈ V, Along line p) (hodd : V.length % 2 = 1) {a b c : Nat} (ha : a < n) (hb : b < n) (hc : c < n) (hac : a ≠ c)
    (h1 : cnt V b a < cnt V a b) (h2 : cnt V c b < cnt V b c) : cnt V c a < cnt V a c := by
  have hab : a ≠ b := fun e => by subst e; omega
  have hbc : b ≠ c := fun e => by subst e; omega
  have e1 := duel_both hVp ha hb hab
  have e2 := duel_both hVp hb hc hbc
  have e3 := duel_both hVp ha hc hac
  have mem : ∀ x : Nat, x < n → (x : Int) ∈ line := fun x hx => hl.mem_iff.2 (mem_sides.2 ⟨by omega, by omega⟩)
  have hnd := perm_nodup hl
  have ne : ∀ x y : Nat, x < n → y < n → x ≠ y → pos line x ≠ pos line y := fun x y hx hy hxy e => hxy (by have := pos_inj hnd (mem x hx) (mem y hy) e; omega)
  have n1 := ne a b ha hb hab
  have n2 := ne b c hb hc hbc
  have n3 := ne a c ha hc hac
  by_cases q : cnt V c a < cnt V a c
  · exact q
  · exfalso
    by_cases m1 : (pos line a < pos line b ∧ pos line b < pos line c) ∨ (pos line c < pos line b ∧ pos line b < pos line a)
    · have := cnt_ahead hl hV (mem a ha) (mem b hb) (mem c hc) m1; omega
    · by_cases m2 : (pos line b < pos line c ∧ pos line c < pos line a) ∨ (pos line a < pos line c ∧ pos line c < pos line b)
      · have := cnt_ahead hl hV (mem b hb) (mem c hc) (mem a ha) m2; omega
      · have m3 : (pos line c < pos line a ∧ pos line a < pos line b) ∨ (pos line b < pos line a ∧ pos line a < pos line c) := by omega
        have := cnt_ahead hl hV (mem c hc) (mem a ha) (mem b hb) m3; omega
end

/-- The first of the list, s counted before it, with which half of N have come. -/
def midF (V : List (List Int)) (N : Nat) : Nat → List Int → Int
  | s, [] => -1
  | s, x :: t => if N ≤ 2 * (s + fst1 V x) then x else midF V N (s + fst1 V x) t
/-- The one in the middle. -/
def midL (line : List Int) (V : List (List Int)) : Int := midF V V.length 0 line
/-- How many votes have one of the first k of the line ahead. -/
def upto (line : List Int) (V : List (List Int)) (k : Nat) : Nat := tot (line.take k) (fst1 V)
theorem upto_zero (line : List Int) (V : List (List Int)) : upto line V 0 = 0 := rfl
theorem upto_succ {line : List Int} {k : Nat} (hk : k < line.length) (V : List (List Int)) : upto line V (k + 1) = upto line V k + fst1 V (line.getD k 0) := by
  unfold upto; rw [take_succ_getD line k hk, tot_append, tot_cons, tot_nil]; rfl
theorem midF_at {V : List (List Int)} {N : Nat} : ∀ (t : List Int) (s k : Nat), k < t.length → N ≤ 2 * (s + tot (t.take (k + 1)) (fst1 V)) → (∀ j, j < k → 2 * (s + tot (t.take (j + 1)) (fst1 V)) < N) → midF V N s t = t.getD k 0 := by
  intro t
  induction t with
  | nil => intro s k hk; simp at hk
  | cons x t ih =>
    intro s k hk h1 h2
    rw [midF]
    cases k with
    | zero =>
      rw [List.take_succ_cons, List.take_zero, tot_cons, tot_nil] at h1
      rw [if_pos (by omega)]; rfl
    | succ k =>
      have h3 := h2 0 (by omega)
      rw [List.take_succ_cons, List.take_zero, tot_cons, tot_nil] at h3
      rw [if_neg (by omega)]
      have := ih (s + fst1 V x) k (by simpa using hk) (by rw [List.take_succ_cons, tot_cons] at h1; omega) (fun j hj => by
        have := h2 (j + 1) (by omega)
        rw [List.take_succ_cons, tot_cons] at this
        omega)
      rw [this]; simp
theorem mid_at {line : List Int} {V : List (List Int)} {k : Nat} (hk : k < line.length) (h1 : V.length ≤ 2 * upto line V (k + 1)) (h2 : ∀ j, j < k → 2 * upto line V (j + 1) < V.length) : midL line V = line.getD k 0 := by
  unfold midL
  exact midF_at line 0 k hk (by unfold upto at h1; omega) (fun j hj => by have := h2 j hj; unfold upto at this; omega)
section
variable {n : Nat} {line : List Int} {V : List (List Int)}
theorem upto_all (hl : line.Perm (sides n)) (h1 : 1 ≤ n) (hV : ∀ p ∈ V, p.Perm (sides n)) : upto line V n = V.length := by
  unfold upto
  rw [List.take_of_length_le (by rw [perm_len hl]; exact Nat.le_refl _), tot_perm hl]
  exact sum_firsts h1 hV
theorem mid_has (hl : line.Perm (sides n)) (h1 : 1 ≤ n) (hV : ∀ p ∈ V, p.Perm (sides n)) : ∃ k, k < n ∧ V.length ≤ 2 * upto line V (k + 1) ∧ (∀ j, j < k → 2 * upto line V (j + 1) < V.length) := by
  have h : ∀ m, m ≤ n → (∃ k, k < m ∧ V.length ≤ 2 * upto line V (k + 1) ∧ (∀ j, j < k → 2 * upto line V (j + 1) < V.length)) ∨ ∀ j, j < m → 2 * upto line V (j + 1) < V.length := by
    intro m
    induction m with
    | zero => intro _; exact .inr fun j hj => absurd hj (by omega)
    | succ m ih =>
      intro hm
      rcases ih (by omega) with ⟨k, hk, r⟩ | h2
      · exact .inl ⟨k, by omega, r⟩
      · by_cases h3 : V.length ≤ 2 * upto line V (m + 1)
        · exact .inl ⟨m, by omega, h3, h2⟩
        · refine .inr fun j hj => ?_
          by_cases e : j = m
          · subst e; omega
          · exact h2 j (by omega)
  rcases h n (Nat.le_refl _) with h | h
  · exact h
  · have h2 := h (n - 1) (by omega)
    rw [show n - 1 + 1 = n by omega, upto_all hl h1 hV] at h2
    omega
theorem tot_mem {S : List Int} {φ : Int → Nat} {x : Int} (h : x ∈ S) : φ x ≤ tot S φ := by
  induction S with
  | nil => cases h
  | cons y S ih =>
    rw [tot_cons]
    rcases List.mem_cons.1 h with h | h
    · subst h; omega
    · have := ih h; omega
theorem cnt_consN (p : List Int) (V : List (List Int)) (x y : Int) : cnt (p :: V) x y = cnt V x y + if pos p x < pos p y then 1 else 0 := by
  unfold cnt; rw [List.countP_cons]; simp
theorem fst1_consN (p : List Int) (V : List (List Int)) (x : Int) : fst1 (p :: V) x = fst1 V x + if pos p x = 0 then 1 else 0 := by
  unfold fst1; rw [List.countP_cons]; simp
theorem upto_cons (p : List Int) (V : List (List Int)) (k : Nat) : upto line (p :: V) k = upto line V k + tot (line.take k) (fun x => if pos p x = 0 then 1 else 0) := by
  unfold upto
  rw [← tot_add]
  exact tot_congr fun x _ => fst1_consN p V x
theorem mem_takeK (hl : line.Perm (sides n)) {x : Int} (hx : x ∈ line) {k : Nat} (hk : k ≤ n) : x ∈ line.take k ↔ pos line x < k := by
  have hnd := perm_nodup hl
  have hln := perm_len hl
  obtain ⟨i, hi, hix, hpi⟩ := pos_mem hnd hx
  rw [hpi]
  constructor
  · intro h
    obtain ⟨j, hj, hjx⟩ := List.getElem_of_mem h
    rw [List.length_take] at hj
    rw [List.getElem_take] at hjx
    have : pos line (line.getD j 0) = j := pos_idx hnd (by omega)
    rw [getD_get (by omega), hjx, hpi] at this
    omega
  · intro h
    rw [← hix, List.mem_iff_getElem]
    exact ⟨i, by rw [List.length_take]; omega, by rw [List.getElem_take, getD_get hi]⟩
/-- The first of an order. -/
theorem top_of {p : List Int} (hp : p.Perm (sides n)) (h1 : 1 ≤ n) : p.getD 0 0 ∈ sides n ∧ pos p (p.getD 0 0) = 0 ∧ ∀ x ∈ sides n, pos p x = 0 → x = p.getD 0 0 := by
  have hnd := perm_nodup hp
  have hln := perm_len hp
  have hm : p.getD 0 0 ∈ p := getD_mem p 0 (by omega)
  have h0 := pos_idx hnd (k := 0) (by omega)
  exact ⟨hp.mem_iff.1 hm, h0, fun x hx e => pos_inj hnd (hp.mem_iff.2 hx) hm (by rw [e, h0]; rfl)⟩
/-- The votes for the K-th of the line against one to its left: all but those whose first is to the left of the K-th. -/
theorem black_left (hl : line.Perm (sides n)) (h1 : 1 ≤ n) (hVp : ∀ p ∈ V, p.Perm (sides n)) (hV : ∀ p ∈ V, Along line p) {K Y : Nat} (hK : K < n) (hY : Y < K) : V.length ≤ cnt V (line.getD K 0) (line.getD Y 0) + upto line V K := by
  have hln := perm_len hl
  have hnd := perm_nodup hl
  induction V with
  | nil => simp
  | cons p V ih =>
    have ih := ih (fun q hq => hVp q (List.mem_cons_of_mem _ hq)) (fun q hq => hV q (List.mem_cons_of_mem _ hq))
    have hp := hVp p (List.mem_cons_self)
    have ha := hV p (List.mem_cons_self)
    obtain ⟨t1, t2, t3⟩ := top_of hp h1
    have tl := hl.mem_iff.2 t1
    rw [cnt_consN, upto_cons, List.length_cons]
    have hpK := pos_idx hnd (k := K) (by omega)
    have hpY := pos_idx hnd (k := Y) (by omega)
    have mK : line.getD K 0 ∈ line := getD_mem line K (by omega)
    have mY : line.getD Y 0 ∈ line := getD_mem line Y (by omega)
    by_cases q : pos line (p.getD 0 0) < K
    · have h4 := tot_mem (φ := fun x => if pos p x = 0 then 1 else 0) ((mem_takeK hl tl (k := K) (by omega)).2 q)
      simp only [t2, if_true] at h4
      omega
    · have hlt : pos p (line.getD K 0) < pos p (line.getD Y 0) := by
        have hY0 : pos p (line.getD Y 0) ≠ 0 := fun e => by
          have := t3 _ (hl.mem_iff.1 mY) e
          rw [← this, hpY] at q
          omega
        by_cases e : p.getD 0 0 = line.getD K 0
        · rw [← e, t2]
          have := pos_range hp (x := (line.getD Y 0).toNat) (by have := mem_sides.1 (hl.mem_iff.1 mY); omega)
          rw [show ((line.getD Y 0).toNat : Int) = line.getD Y 0 by have := mem_sides.1 (hl.mem_iff.1 mY); omega] at this
          omega
        · have hne : pos line (p.getD 0 0) ≠ K := fun e2 => e (pos_inj hnd tl mK (by rw [e2, hpK]))
          have hYK : pos p (line.getD Y 0) ≠ pos p (line.getD K 0) := fun e3 => by
            have := pos_inj (perm_nodup hp) (hp.mem_iff.2 (hl.mem_iff.1 mY)) (hp.mem_iff.2 (hl.mem_iff.1 mK)) e3
            rw [this, hpK] at hpY; omega
          by_cases q2 : pos p (line.getD Y 0) < pos p (line.getD K 0)
          · exfalso
            have h0 := pos_range hp (x := (line.getD Y 0).toNat) (by have := mem_sides.1 (hl.mem_iff.1 mY); omega)
            rw [show ((line.getD Y 0).toNat : Int) = line.getD Y 0 by have := mem_sides.1 (hl.mem_iff.1 mY); omega] at h0
            have := ha.ahead hl mY mK tl (.inl ⟨by omega, by omega⟩) q2
            rw [t2] at this
            omega
          · omega
      rw [if_pos hlt]
      omega
theorem black_right (hl : line.Perm (sides n)) (h1 : 1 ≤ n) (hVp : ∀ p ∈ V, p.Perm (sides n)) (hV : ∀ p ∈ V, Along line p) {K Y : Nat} (hY : K < Y) (hYn : Y < n) : upto line V (K + 1) ≤ cnt V (line.getD K 0) (line.getD Y 0) := by
  have hln := perm_len hl
  have hnd := perm_nodup hl
  induction V with
  | nil => have : upto line [] (K + 1) = 0 := tot_zero.2 (fun x _ => rfl)
           omega
  | cons p V ih =>
    have ih := ih (fun q hq => hVp q (List.mem_cons_of_mem _ hq)) (fun q hq => hV q (List.mem_cons_of_mem _ hq))
    have hp := hVp p (List.mem_cons_self)
    have ha := hV p (List.mem_cons_self)
    obtain ⟨t1, t2, t3⟩ := top_of hp h1
    have tl := hl.mem_iff.2 t1
    rw [cnt_consN, upto_cons]
    have hpK := pos_idx hnd (k := K) (by omega)
    have hpY := pos_idx hnd (k := Y) (by omega)
    have mK : line.getD K 0 ∈ line := getD_mem line K (by omega)
    have mY : line.getD Y 0 ∈ line := getD_mem line Y (by omega)
    have hone : tot (line.take (K + 1)) (fun x => if pos p x = 0 then 1 else 0) ≤ 1 := by
      have h5 : tot (line.take (K + 1)) (fun x => if pos p x = 0 then 1 else 0) ≤ tot line (fun x => if pos p x = 0 then 1 else 0) := by
        have e := List.take_append_drop (K + 1) line
        have : tot line (fun x => if pos p x = 0 then 1 else 0) = tot (line.take (K + 1)) (fun x => if pos p x = 0 then 1 else 0) + tot (line.drop (K + 1)) (fun x => if pos p x = 0 then 1 else 0) := by
          rw [← tot_append, e]
        omega
      have h6 : tot line (fun x => if pos p x = 0 then 1 else 0) = 1 := by
        rw [tot_perm hl]
        have := tot_pos hp (fun z => if z = 0 then 1 else 0)
        rw [this, tot_first, if_pos (by omega)]
      omega
    by_cases q : pos line (p.getD 0 0) < (K + 1 : Nat)
    · have hlt : pos p (line.getD K 0) < pos p (line.getD Y 0) := by
        have y0 := pos_range hp (x := (line.getD Y 0).toNat) (by have := mem_sides.1 (hl.mem_iff.1 mY); omega)
        rw [show ((line.getD Y 0).toNat : Int) = line.getD Y 0 by have := mem_sides.1 (hl.mem_iff.1 mY); omega] at y0
        have hY0 : pos p (line.getD Y 0) ≠ 0 := fun e => by
          have := t3 _ (hl.mem_iff.1 mY) e
          rw [← this, hpY] at q
          omega
        by_cases e : p.getD 0 0 = line.getD K 0
        · rw [← e, t2]; omega
        · have hne : pos line (p.getD 0 0) ≠ K := fun e2 => e (pos_inj hnd tl mK (by rw [e2, hpK]))
          have hYK : pos p (line.getD Y 0) ≠ pos p (line.getD K 0) := fun e3 => by
            have := pos_inj (perm_nodup hp) (hp.mem_iff.2 (hl.mem_iff.1 mY)) (hp.mem_iff.2 (hl.mem_iff.1 mK)) e3
            rw [this, hpK] at hpY; omega
          by_cases q2 : pos p (line.getD Y 0) < pos p (line.getD K 0)
          · exfalso
            have := ha.ahead hl mY mK tl (.inr ⟨by omega, by omega⟩) q2
            rw [t2] at this
            omega
          · omega
      rw [if_pos hlt]
      omega
    · have h7 : tot (line.take (K + 1)) (fun x => if pos p x = 0 then 1 else 0) = 0 := tot_zero.2 fun x hx => by
        by_cases e : pos p x = 0
        · exfalso
          have hxl : x ∈ line := List.mem_of_mem_take hx
          have := t3 x (hl.mem_iff.1 hxl) e
          rw [this] at hx
          exact q ((mem_takeK hl tl (by omega)).1 hx)
        · rw [if_neg e]
      omega
/-- Black: who stands in the middle is beaten by nobody, and of an odd number of votes beats all others. -/
theorem peak_black (hl : line.Perm (sides n)) (h1 : 1 ≤ n) (hVp : ∀ p ∈ V, p.Perm (sides n)) (hV : ∀ p ∈ V, Along line p) (hne : 1 ≤ V.length) :
    ∃ k : Nat, k < n ∧ midL line V = k ∧ (∀ y : Nat, y < n → cnt V y k ≤ cnt V k y) ∧ (V.length % 2 = 1 → Beats n V k) := by
  have hln := perm_len hl
  have hnd := perm_nodup hl
  obtain ⟨K, hK, hup, hlo⟩ := mid_has hl h1 hVp
  have hm := mid_at (by omega) hup hlo
  have hlow : 2 * upto line V K < V.length := by
    cases K with
    | zero => rw [upto_zero]; omega
    | succ K => exact hlo K (by omega)
  have mK := mem_sides.1 (hl.mem_iff.1 (getD_mem line K (by omega)))
  obtain ⟨k, hk⟩ : ∃ k : Nat, line.getD K 0 = k := ⟨(line.getD K 0).toNat, by omega⟩
  have hkn : k < n := by omega
  have hall : ∀ y : Nat, y < n → y ≠ k → cnt V y k ≤ cnt V k y ∧ (V.length % 2 = 1 → cnt V y k < cnt V k y) := by
    intro y hy hyk
    obtain ⟨Y, hY, hYy, _⟩ := pos_mem hnd (y := (y : Int)) (hl.mem_iff.2 (mem_sides.2 ⟨by omega, by omega⟩))
    have hYK : Y ≠ K := fun e => by subst e; rw [hYy] at hk; omega
    have hb := duel_both hVp hkn hy (fun e => hyk e.symm)
    by_cases q : Y < K
    · have := black_left hl h1 hVp hV hK q
      rw [hk, hYy] at this
      omega
    · have := black_right hl h1 hVp hV (K := K) (Y := Y) (by omega) (by omega)
      rw [hk, hYy] at this
      omega
  refine ⟨k, hkn, by rw [hm, hk], fun y hy => ?_, fun hodd => ⟨hkn, fun y hy hyk => (hall y hy hyk).2 hodd⟩⟩
  by_cases e : y = k
  · subst e; exact Nat.le_refl _
  · exact (hall y hy e).1
end
end Fm

/-
  How many orders are along a line: two to the power of one less than the sides, whatever the line: lists of ints alone, no Go text.
-/
namespace Fm
set_option linter.unusedVariables false

theorem perms_nodup : ∀ (k : Nat) (S : List Int), S.length = k → S.Nodup → (perms k S).Nodup := by
  intro k
  induction k with
  | zero => intro S _ _; simp [perms]
  | succ k ih =>
    intro S hS hnd
    rw [perms]
    unfold List.Nodup
    rw [List.pairwise_flatMap]
    constructor
    · intro i hi
      have hi := List.mem_range.1 hi
      have h1 := ih (S.eraseIdx i) (by rw [List.length_eraseIdx, if_pos hi]; omega) (hnd.sublist (List.eraseIdx_sublist S i))
      rw [List.pairwise_map]
      exact h1.imp fun hne e => hne (List.cons.inj e).2
    · have hr : (List.range S.length).Pairwise (fun a b => a < b) := List.pairwise_lt_range
      refine hr.imp_of_mem ?_
      intro a b ha hb hab x hx y hy e
      have ha := List.mem_range.1 ha
      have hb := List.mem_range.1 hb
      rw [List.mem_map] at hx hy
      obtain ⟨u, _, rfl⟩ := hx
      obtain ⟨v, _, rfl⟩ := hy
      have e1 := (List.cons.inj e).1
      have p1 := pos_idx hnd ha
      have p2 := pos_idx hnd hb
      rw [e1, p2] at p1
      omega
theorem allO_nodup (n : Nat) : (allO n).Nodup := perms_nodup n (sides n) (sides_len n) (sides_nodup n)

/-- An order by the names on the line. -/
def byL (line q : List Int) : List Int := q.map fun x => line.getD x.toNat 0
section
variable {n : Nat} {line : List Int}
theorem byL_perm (hl : line.Perm (sides n)) {q : List Int} (hq : q.Perm (sides n)) : (byL line q).Perm (sides n) := by
  have h := hq.map (fun x => line.getD x.toNat 0)
  have e : (sides n).map (fun z => line.getD z.toNat 0) = line := by rw [← perm_len hl]; exact (as_map line).symm
  rw [e] at h
  exact h.trans hl
theorem byL_pos (hl : line.Perm (sides n)) {q : List Int} (hq : q.Perm (sides n)) {x : Nat} (hx : x < n) : pos (byL line q) (line.getD x 0) = pos q x := by
  obtain ⟨k, hk, hkx, hpk⟩ := pos_mem (perm_nodup hq) (y := (x : Int)) (hq.mem_iff.2 (mem_sides.2 ⟨by omega, by omega⟩))
  have hlr : (byL line q).length = q.length := by simp [byL]
  have hg : (byL line q).getD k 0 = line.getD x 0 := by
    rw [getD_get (by omega)]
    unfold byL
    rw [List.getElem_map, ← getD_get hk, hkx]
    rfl
  have h := pos_idx (perm_nodup (byL_perm hl hq)) (k := k) (by omega)
  rw [hg] at h
  rw [h, hpk]
theorem byL_along (hl : line.Perm (sides n)) {q : List Int} (hq : q.Perm (sides n)) : alongB line (byL line q) = alongB (sides n) q := by
  have hln := perm_len hl
  unfold alongB
  rw [hln, sides_len]
  have h : ∀ i j k, i < j → j < k → k < n → lastB line (byL line q) i j k = lastB (sides n) q i j k := fun i j k a b c => by
    unfold lastB
    rw [byL_pos hl hq (by omega), byL_pos hl hq (by omega), byL_pos hl hq (by omega), sides_getD (by omega), sides_getD (by omega), sides_getD (by omega)]
  apply Bool.eq_iff_iff.2
  simp only [List.all_eq_true, List.mem_range, Bool.not_eq_true']
  exact ⟨fun hh k hk j hj i hi => by rw [← h i j k hi hj hk]; exact hh k hk j hj i hi, fun hh k hk j hj i hi => by rw [h i j k hi hj hk]; exact hh k hk j hj i hi⟩
theorem byL_inj (hl : line.Perm (sides n)) {p q : List Int} (hp : p.Perm (sides n)) (hq : q.Perm (sides n)) (h : byL line p = byL line q) : p = q := by
  have lp := perm_len hp
  have lq := perm_len hq
  apply List.ext_getElem (by omega)
  intro i h1 h2
  have e : (byL line p)[i]? = (byL line q)[i]? := by rw [h]
  unfold byL at e
  rw [List.getElem?_map, List.getElem?_map, List.getElem?_eq_getElem h1, List.getElem?_eq_getElem h2] at e
  simp only [Option.map_some, Option.some.injEq] at e
  have m1 := mem_sides.1 (hp.mem_iff.1 (List.getElem_mem h1))
  have m2 := mem_sides.1 (hq.mem_iff.1 (List.getElem_mem h2))
  have hln := perm_len hl
  have a := pos_idx (perm_nodup hl) (k := (p[i]).toNat) (by omega)
  have b := pos_idx (perm_nodup hl) (k := (q[i]).toNat) (by omega)
  rw [e, b] at a
  omega
theorem nodup_map_on {L : List (List Int)} {f : List Int → List Int} (h : L.Nodup) (hf : ∀ a ∈ L, ∀ b ∈ L, f a = f b → a = b) : (L.map f).Nodup := by
  unfold List.Nodup at *
  rw [List.pairwise_map]
  exact h.imp_of_mem fun ha hb hne e => hne (hf _ ha _ hb e)
theorem perm_of_sub : ∀ (l m : List (List Int)), l.Nodup → (∀ x ∈ l, x ∈ m) → l.length = m.length → l.Perm m := by
  intro l
  induction l with
  | nil => intro m _ _ h; rw [List.eq_nil_of_length_eq_zero h.symm]
  | cons x l ih =>
    intro m hnd hs hl
    rw [List.nodup_cons] at hnd
    have hx := hs x (List.mem_cons_self)
    have hp := List.perm_cons_erase hx
    refine (List.Perm.cons x (ih (m.erase x) hnd.2 (fun y hy => ?_) ?_)).trans hp.symm
    · exact (List.mem_erase_of_ne (fun e => hnd.1 (by subst e; exact hy))).2 (hs y (List.mem_cons_of_mem _ hy))
    · rw [List.length_erase_of_mem hx]; simp at hl; omega
theorem byL_all (hl : line.Perm (sides n)) : ((allO n).map (byL line)).Perm (allO n) := by
  refine perm_of_sub _ _ (nodup_map_on (allO_nodup n) fun a ha b hb e => byL_inj hl (mem_allO.1 ha) (mem_allO.1 hb) e) (fun x hx => ?_) (by simp)
  rw [List.mem_map] at hx
  obtain ⟨q, hq, rfl⟩ := hx
  exact mem_allO.2 (byL_perm hl (mem_allO.1 hq))
theorem peak_1 : (allO 1).countP (alongB (sides 1)) = 2 ^ (1 - 1) := by decide +kernel
theorem peak_2 : (allO 2).countP (alongB (sides 2)) = 2 ^ (2 - 1) := by decide +kernel
theorem peak_3 : (allO 3).countP (alongB (sides 3)) = 2 ^ (3 - 1) := by decide +kernel
theorem peak_4 : (allO 4).countP (alongB (sides 4)) = 2 ^ (4 - 1) := by decide +kernel
theorem peak_5 : (allO 5).countP (alongB (sides 5)) = 2 ^ (5 - 1) := by decide +kernel
theorem peak_6 : (allO 6).countP (alongB (sides 6)) = 2 ^ (6 - 1) := by decide +kernel
theorem peak_many (hl : line.Perm (sides n)) (h1 : 1 ≤ n) (h6 : n ≤ 6) : (allO n).countP (alongB line) = 2 ^ (n - 1) := by
  rw [← (byL_all hl).countP_eq, List.countP_map]
  have e : (allO n).countP (alongB line ∘ byL line) = (allO n).countP (alongB (sides n)) := by
    apply List.countP_congr
    intro q hq
    rw [Function.comp_apply, byL_along hl (mem_allO.1 hq)]
  rw [e]
  have : n = 1 ∨ n = 2 ∨ n = 3 ∨ n = 4 ∨ n = 5 ∨ n = 6 := by omega
  rcases this with rfl | rfl | rfl | rfl | rfl | rfl
  · exact peak_1
  · exact peak_2
  · exact peak_3
  · exact peak_4
  · exact peak_5
  · exact peak_6
end
end Fm

/-
  Seats by divisors, one by one, and by largest remainders: numbers alone, no Go text.
-/
namespace Fm
set_option linter.unusedVariables false

/-- The sum of the first n. -/
def sN (f : Nat → Nat) : Nat → Nat
  | 0 => 0
  | n + 1 => sN f n + f n
theorem sN_congr {f g : Nat → Nat} {n : Nat} (h : ∀ i, i < n → f i = g i) : sN f n = sN g n := by
  induction n with
  | zero => rfl
  | succ n ih => rw [sN, sN, ih (fun i hi => h i (by omega)), h n (by omega)]
theorem sN_le {f g : Nat → Nat} {n : Nat} (h : ∀ i, i < n → f i ≤ g i) : sN f n ≤ sN g n := by
  induction n with
  | zero => exact Nat.le_refl _
  | succ n ih => rw [sN, sN]; have := ih (fun i hi => h i (by omega)); have := h n (by omega); omega
theorem sN_add (f g : Nat → Nat) (n : Nat) : sN (fun i => f i + g i) n = sN f n + sN g n := by
  induction n with
  | zero => rfl
  | succ n ih => rw [sN, sN, sN, ih]; omega
theorem sN_mul (c : Nat) (f : Nat → Nat) (n : Nat) : sN (fun i => c * f i) n = c * sN f n := by
  induction n with
  | zero => rfl
  | succ n ih => rw [sN, sN, ih, Nat.mul_add]
theorem sN_zero (n : Nat) : sN (fun _ => 0) n = 0 := by
  induction n with
  | zero => rfl
  | succ n ih => rw [sN, ih]
theorem sN_mem {f : Nat → Nat} {n i : Nat} (hi : i < n) : f i ≤ sN f n := by
  induction n with
  | zero => omega
  | succ n ih =>
    rw [sN]
    by_cases e : i = n
    · subst e; omega
    · have := ih (by omega); omega
/-- One of them raised by one. -/
def up1 (s : Nat → Nat) (b : Nat) : Nat → Nat := fun i => if i = b then s i + 1 else s i
theorem sN_up (s : Nat → Nat) {b n : Nat} (hb : b < n) : sN (up1 s b) n = sN s n + 1 := by
  induction n with
  | zero => omega
  | succ n ih =>
    rw [sN, sN]
    by_cases e : b = n
    · subst e
      have : sN (up1 s b) b = sN s b := sN_congr (fun i hi => by unfold up1; rw [if_neg (by omega)])
      rw [this]; unfold up1; rw [if_pos rfl]; omega
    · rw [ih (by omega)]; unfold up1; rw [if_neg (by omega)]; omega
/-- If the sums are the same and one is less, another is more. -/
theorem sN_more {f g : Nat → Nat} {n : Nat} (h : sN f n = sN g n) {i : Nat} (hi : i < n) (hlt : f i < g i) : ∃ k, k < n ∧ g k < f k := by
  by_cases hh : ∃ k, k < n ∧ g k < f k
  · exact hh
  · exfalso
    have h1 : ∀ k, k < n → f k ≤ g k := fun k hk => by
      by_cases q : g k < f k
      · exact absurd ⟨k, hk, q⟩ hh
      · omega
    have h2 : sN (up1 f i) n ≤ sN g n := sN_le (fun k hk => by
      unfold up1
      by_cases e : k = i
      · subst e; rw [if_pos rfl]; omega
      · rw [if_neg e]; exact h1 k hk)
    rw [sN_up f hi] at h2
    omega

/-- a over b is less than c over d. -/
def flt (a b c d : Nat) : Prop := a * d < c * b
instance (a b c d : Nat) : Decidable (flt a b c d) := by unfold flt; infer_instance
theorem flt_trans {a b c d e f : Nat} (hd : 0 < d) (hf : 0 < f) (h1 : flt a b c d) (h2 : ¬ flt e f c d) : flt a b e f := by
  unfold flt at *
  have h2 : c * f ≤ e * d := by omega
  have q1 : a * d * f < c * b * f := Nat.mul_lt_mul_of_pos_right h1 hf
  have q2 : c * f * b ≤ e * d * b := Nat.mul_le_mul_right b h2
  have q3 : a * f * d < e * b * d := by
    have e1 : a * f * d = a * d * f := Nat.mul_right_comm a f d
    have e2 : c * b * f = c * f * b := Nat.mul_right_comm c b f
    have e3 : e * b * d = e * d * b := Nat.mul_right_comm e b d
    omega
  exact Nat.lt_of_mul_lt_mul_right q3
theorem fle_trans {a b c d e f : Nat} (hd : 0 < d) (h1 : ¬ flt c d a b) (h2 : ¬ flt e f c d) : ¬ flt e f a b := by
  unfold flt at *
  intro h
  have h1 : a * d ≤ c * b := by omega
  have h2 : c * f ≤ e * d := by omega
  have q1 : a * d * f ≤ c * b * f := Nat.mul_le_mul_right f h1
  have q2 : c * f * b ≤ e * d * b := Nat.mul_le_mul_right b h2
  have q3 : a * f * d ≤ e * b * d := by
    have e1 : a * f * d = a * d * f := Nat.mul_right_comm a f d
    have e2 : c * b * f = c * f * b := Nat.mul_right_comm c b f
    have e3 : e * b * d = e * d * b := Nat.mul_right_comm e b d
    omega
  have := Nat.le_of_mul_le_mul_right q3 hd
  omega
theorem flt_trans2 {a b c d e f : Nat} (hb : 0 < b) (hd : 0 < d) (h1 : ¬ flt c d a b) (h2 : flt c d e f) : flt a b e f := by
  unfold flt at *
  have h1 : a * d ≤ c * b := by omega
  by_cases hf : f = 0
  · subst hf; rw [Nat.mul_zero] at h2 ⊢
    have : 0 < e * d := h2
    have he : 0 < e := Nat.pos_of_mul_pos_right this
    exact Nat.mul_pos he hb
  · have q1 : a * d * f ≤ c * b * f := Nat.mul_le_mul_right f h1
    have q2 : c * f * b < e * d * b := Nat.mul_lt_mul_of_pos_right h2 hb
    have q3 : a * f * d < e * b * d := by
      have e1 : a * f * d = a * d * f := Nat.mul_right_comm a f d
      have e2 : c * b * f = c * f * b := Nat.mul_right_comm c b f
      have e3 : e * b * d = e * d * b := Nat.mul_right_comm e b d
      omega
    exact Nat.lt_of_mul_lt_mul_right q3

/-- The first of the first n with the greatest x over d, the d positive. -/
def Pick (n : Nat) (x d : Nat → Nat) (b : Nat) : Prop := b < n ∧ (∀ j, j < n → ¬ flt (x b) (d b) (x j) (d j)) ∧ ∀ j, j < b → flt (x j) (d j) (x b) (d b)
def pickTo (x d : Nat → Nat) : Nat → Nat
  | 0 => 0
  | k + 1 => if flt (x (pickTo x d k)) (d (pickTo x d k)) (x (k + 1)) (d (k + 1)) then k + 1 else pickTo x d k
theorem pickTo_le (x d : Nat → Nat) (k : Nat) : pickTo x d k ≤ k := by
  induction k with
  | zero => exact Nat.le_refl _
  | succ k ih => rw [pickTo]; split <;> omega
theorem pickTo_pick {x d : Nat → Nat} (hd : ∀ i, 0 < d i) (k : Nat) : Pick (k + 1) x d (pickTo x d k) := by
  induction k with
  | zero => refine ⟨by rw [pickTo]; omega, fun j hj => ?_, fun j hj => by rw [pickTo] at hj; omega⟩
            have : j = 0 := by omega
            subst this; rw [pickTo]; unfold flt; omega
  | succ k ih =>
    obtain ⟨h1, h2, h3⟩ := ih
    rw [pickTo]
    by_cases h : flt (x (pickTo x d k)) (d (pickTo x d k)) (x (k + 1)) (d (k + 1))
    · rw [if_pos h]
      have hall : ∀ j, j < k + 1 → flt (x j) (d j) (x (k + 1)) (d (k + 1)) := fun j hj => flt_trans2 (hd _) (hd _) (h2 j hj) h
      refine ⟨by omega, fun j hj => ?_, hall⟩
      by_cases e : j = k + 1
      · subst e; unfold flt; omega
      · have := hall j (by omega)
        unfold flt at this ⊢
        omega
    · rw [if_neg h]
      refine ⟨by omega, fun j hj => ?_, h3⟩
      by_cases e : j = k + 1
      · subst e; exact h
      · exact h2 j (by omega)
theorem pick_one {n : Nat} {x d : Nat → Nat} {a b : Nat} (ha : Pick n x d a) (hb : Pick n x d b) : a = b := by
  by_cases h : a < b
  · exact absurd (hb.2.2 a h) (ha.2.1 b hb.1)
  · by_cases h2 : b < a
    · exact absurd (ha.2.2 b h2) (hb.2.1 a ha.1)
    · omega

/-- By divisors: the seats of each after so many. -/
def seatT (w n : Nat) (x : Nat → Nat) : Nat → Nat → Nat
  | 0 => fun _ => 0
  | t + 1 => up1 (seatT w n x t) (pickTo x (fun i => w * seatT w n x t i + 1) (n - 1))
section
variable {w n : Nat} {x : Nat → Nat}
theorem seatT_pick (hn : 1 ≤ n) (t : Nat) : Pick n x (fun i => w * seatT w n x t i + 1) (pickTo x (fun i => w * seatT w n x t i + 1) (n - 1)) := by
  have := pickTo_pick (x := x) (d := fun i => w * seatT w n x t i + 1) (fun i => by simp) (n - 1)
  rwa [show n - 1 + 1 = n by omega] at this
theorem seatT_sum (hn : 1 ≤ n) (t : Nat) : sN (seatT w n x t) n = t := by
  induction t with
  | zero => exact sN_zero n
  | succ t ih => rw [seatT, sN_up _ (seatT_pick hn t).1, ih]
theorem seatT_step (t i : Nat) : seatT w n x t i ≤ seatT w n x (t + 1) i ∧ seatT w n x (t + 1) i ≤ seatT w n x t i + 1 := by
  rw [seatT]; unfold up1; split <;> omega
/-- No seat would be better taken from one and given to another. -/
theorem seatT_div (hn : 1 ≤ n) (t : Nat) : ∀ i k, i < n → k < n → 0 < seatT w n x t i → x k * (w * (seatT w n x t i - 1) + 1) ≤ x i * (w * seatT w n x t k + 1) := by
  induction t with
  | zero => intro i k _ _ h; rw [seatT] at h; dsimp only at h; omega
  | succ t ih =>
    intro i k hi hk h
    obtain ⟨p1, p2, p3⟩ := seatT_pick (w := w) (x := x) hn t
    rw [seatT] at h ⊢
    generalize pickTo x (fun i => w * seatT w n x t i + 1) (n - 1) = b at *
    by_cases hib : i = b
    · subst hib
      have hk2 : seatT w n x t k ≤ up1 (seatT w n x t) i k := by unfold up1; split <;> omega
      have e : up1 (seatT w n x t) i i - 1 = seatT w n x t i := by unfold up1; rw [if_pos rfl]; omega
      rw [e]
      have q := p2 k hk
      unfold flt at q
      dsimp only at q
      have q2 : x k * (w * seatT w n x t i + 1) ≤ x i * (w * seatT w n x t k + 1) := by omega
      refine Nat.le_trans q2 (Nat.mul_le_mul_left _ ?_)
      have := Nat.mul_le_mul_left w hk2
      omega
    · have e : up1 (seatT w n x t) b i = seatT w n x t i := by unfold up1; rw [if_neg hib]
      rw [e] at h ⊢
      refine Nat.le_trans (ih i k hi hk h) (Nat.mul_le_mul_left _ ?_)
      have hk2 : seatT w n x t k ≤ up1 (seatT w n x t) b k := by unfold up1; split <;> omega
      have := Nat.mul_le_mul_left w hk2
      omega
/-- Who has no fewer people and stands ahead has no fewer seats. -/
theorem seatT_mono (hn : 1 ≤ n) (t : Nat) : ∀ k i, k < i → i < n → x i ≤ x k → seatT w n x t i ≤ seatT w n x t k := by
  induction t with
  | zero => intro k i _ _ _; exact Nat.le_refl _
  | succ t ih =>
    intro k i hki hi hx
    have h0 := ih k i hki hi hx
    obtain ⟨p1, p2, p3⟩ := seatT_pick (w := w) (x := x) hn t
    rw [seatT]
    generalize pickTo x (fun i => w * seatT w n x t i + 1) (n - 1) = b at *
    unfold up1
    by_cases hib : i = b
    · subst hib
      rw [if_pos rfl, if_neg (by omega)]
      by_cases e : seatT w n x t i = seatT w n x t k
      · exfalso
        have q := p3 k hki
        unfold flt at q
        dsimp only at q
        rw [e] at q
        have := Nat.mul_le_mul_right (w * seatT w n x t k + 1) hx
        omega
      · omega
    · rw [if_neg hib]; split <;> omega
theorem pickTo_scale {c : Nat} (hc : 0 < c) (d : Nat → Nat) (k : Nat) : pickTo (fun i => c * x i) d k = pickTo x d k := by
  induction k with
  | zero => rfl
  | succ k ih =>
    rw [pickTo, pickTo, ih]
    have e : flt (c * x (pickTo x d k)) (d (pickTo x d k)) (c * x (k + 1)) (d (k + 1)) ↔ flt (x (pickTo x d k)) (d (pickTo x d k)) (x (k + 1)) (d (k + 1)) := by
      unfold flt
      rw [Nat.mul_assoc, Nat.mul_assoc]
      exact Nat.mul_lt_mul_left hc
    by_cases h : flt (x (pickTo x d k)) (d (pickTo x d k)) (x (k + 1)) (d (k + 1))
    · rw [if_pos h, if_pos (e.2 h)]
    · rw [if_neg h, if_neg (fun q => h (e.1 q))]
theorem seatT_scale {c : Nat} (hc : 0 < c) (t : Nat) : seatT w n (fun i => c * x i) t = seatT w n x t := by
  induction t with
  | zero => rfl
  | succ t ih => rw [seatT, seatT, ih, pickTo_scale hc]
/-- With as many seats as people each has as many as it has people. -/
theorem seatT_all (hn : 1 ≤ n) (hw : 1 ≤ w) : ∀ i, i < n → seatT w n x (sN x n) i = x i := by
  have hs := seatT_sum (w := w) (x := x) hn (sN x n)
  have no : ¬ ∃ k, k < n ∧ x k < seatT w n x (sN x n) k := by
    rintro ⟨i, hi, h⟩
    obtain ⟨k, hk, h2⟩ := sN_more hs.symm hi h
    have q := seatT_div (w := w) (x := x) hn (sN x n) i k hi hk (by omega)
    generalize seatT w n x (sN x n) i = a at *
    generalize seatT w n x (sN x n) k = b at *
    have q1 : x k * (w * x i + 1) ≤ x k * (w * (a - 1) + 1) := Nat.mul_le_mul_left _ (by have := Nat.mul_le_mul_left w (show x i ≤ a - 1 by omega); omega)
    have q2 : x i * (w * b + 1) ≤ x i * (w * (x k - 1) + 1) := Nat.mul_le_mul_left _ (by have := Nat.mul_le_mul_left w (show b ≤ x k - 1 by omega); omega)
    obtain ⟨y, hy⟩ : ∃ y, x k = y + 1 := ⟨x k - 1, by omega⟩
    rw [hy] at q1 q2 q
    have e1 : (y + 1) * (w * x i + 1) = w * x i * y + w * x i + y + 1 := by rw [Nat.mul_add, Nat.mul_one, Nat.add_mul, Nat.one_mul, Nat.mul_comm y]; omega
    have e2 : x i * (w * (y + 1 - 1) + 1) = w * x i * y + x i := by rw [Nat.add_sub_cancel, Nat.mul_add, Nat.mul_one, ← Nat.mul_assoc, Nat.mul_comm (x i) w]
    have e3 : x i ≤ w * x i := Nat.le_mul_of_pos_left _ hw
    omega
  intro i hi
  by_cases h1 : x i < seatT w n x (sN x n) i
  · exact absurd ⟨i, hi, h1⟩ no
  · by_cases h2 : seatT w n x (sN x n) i < x i
    · exact absurd (sN_more hs hi h2) no
    · omega
/-- Jefferson: no less than the part, rounded down. -/
theorem seatT_quota (hn : 1 ≤ n) (t : Nat) (hp : 0 < sN x n) : ∀ i, i < n → x i * t / sN x n ≤ seatT 1 n x t i := by
  intro i hi
  by_cases h : x i * t / sN x n ≤ seatT 1 n x t i
  · exact h
  · exfalso
    have hs := seatT_sum (w := 1) (x := x) hn t
    -- (b_i + 1) * all ≤ x_i * t
    have h1 : (seatT 1 n x t i + 1) * sN x n ≤ x i * t := by
      have := Nat.div_mul_le_self (x i * t) (sN x n)
      exact Nat.le_trans (Nat.mul_le_mul_right _ (by omega)) this
    have e1 : sN (fun k => sN x n * seatT 1 n x t k) n = sN (fun k => t * x k) n := by rw [sN_mul, sN_mul, hs, Nat.mul_comm]
    have hlt : sN x n * seatT 1 n x t i < t * x i := by rw [Nat.add_mul, Nat.one_mul] at h1; rw [Nat.mul_comm (sN x n), Nat.mul_comm t]; omega
    obtain ⟨k, hk, h2⟩ := sN_more e1 hi hlt
    have hpos : 0 < seatT 1 n x t k := by
      by_cases q : seatT 1 n x t k = 0
      · rw [q, Nat.mul_zero] at h2; omega
      · omega
    have q := seatT_div (w := 1) (x := x) hn t k i hk hi hpos
    generalize seatT 1 n x t k = a at *
    generalize seatT 1 n x t i = b at *
    rw [Nat.one_mul, Nat.one_mul, show a - 1 + 1 = a by omega] at q
    -- x_i * a ≤ x_k * (b+1); t x_k < all a; (b+1) all ≤ x_i t
    have q1 : (b + 1) * sN x n * a ≤ x i * t * a := Nat.mul_le_mul_right a h1
    have q2 : x i * a * t ≤ x k * (b + 1) * t := Nat.mul_le_mul_right t q
    have q3 : t * x k * (b + 1) < sN x n * a * (b + 1) := Nat.mul_lt_mul_of_pos_right h2 (by omega)
    have c1 : x i * t * a = x i * a * t := Nat.mul_right_comm _ _ _
    have c2 : x k * (b + 1) * t = t * x k * (b + 1) := by rw [Nat.mul_comm _ t, ← Nat.mul_assoc]
    have c3 : (b + 1) * sN x n * a = sN x n * a * (b + 1) := by rw [Nat.mul_assoc, Nat.mul_comm]
    omega
end
end Fm

/-
  Sets of players as numbers, their weights, and who turns how many of them: numbers alone, no Go text.
-/
namespace Fm
set_option linter.unusedVariables false

theorem perm_subG {α : Type} [DecidableEq α] : ∀ (l m : List α), l.Nodup → (∀ x ∈ l, x ∈ m) → l.length = m.length → l.Perm m := by
  intro l
  induction l with
  | nil => intro m _ _ h; rw [List.eq_nil_of_length_eq_zero h.symm]
  | cons x l ih =>
    intro m hnd hs hl
    rw [List.nodup_cons] at hnd
    have hx := hs x (List.mem_cons_self)
    have hp := List.perm_cons_erase hx
    refine (List.Perm.cons x (ih (m.erase x) hnd.2 (fun y hy => ?_) ?_)).trans hp.symm
    · exact (List.mem_erase_of_ne (fun e => hnd.1 (by subst e; exact hy))).2 (hs y (List.mem_cons_of_mem _ hy))
    · rw [List.length_erase_of_mem hx]; simp at hl; omega
/-- How many of the first N. -/
def cS (p : Nat → Bool) (N : Nat) : Nat := (List.range N).countP p
theorem cS_zero (p : Nat → Bool) : cS p 0 = 0 := rfl
theorem cS_succ (p : Nat → Bool) (N : Nat) : cS p (N + 1) = cS p N + if p N = true then 1 else 0 := by
  unfold cS; rw [List.range_succ, List.countP_append, List.countP_singleton]
theorem cS_le (p : Nat → Bool) (N : Nat) : cS p N ≤ N := by unfold cS; have := List.countP_le_length (p := p) (l := List.range N); simpa using this
theorem cS_mono {p q : Nat → Bool} {N : Nat} (h : ∀ S, S < N → p S = true → q S = true) : cS p N ≤ cS q N := by
  unfold cS
  apply List.countP_mono_left
  intro S hS
  exact h S (List.mem_range.1 hS)
theorem cS_congr {p q : Nat → Bool} {N : Nat} (h : ∀ S, S < N → p S = q S) : cS p N = cS q N := by
  unfold cS
  apply List.countP_congr
  intro S hS
  rw [h S (List.mem_range.1 hS)]
theorem cS_inv {f : Nat → Nat} {N : Nat} (h : ∀ S, S < N → f S < N ∧ f (f S) = S) (p : Nat → Bool) : cS p N = cS (fun S => p (f S)) N := by
  unfold cS
  have hp : ((List.range N).map f).Perm (List.range N) := by
    refine perm_subG _ _ ?_ (fun x hx => ?_) (by simp)
    · unfold List.Nodup
      rw [List.pairwise_map]
      refine List.Pairwise.imp_of_mem ?_ (List.nodup_range (n := N))
      intro a b ha hb hne e
      have h1 := (h a (List.mem_range.1 ha)).2
      have h2 := (h b (List.mem_range.1 hb)).2
      rw [e, h2] at h1
      exact hne h1.symm
    · rw [List.mem_map] at hx
      obtain ⟨S, hS, rfl⟩ := hx
      exact List.mem_range.2 (h S (List.mem_range.1 hS)).1
  rw [← hp.countP_eq, List.countP_map]
  rfl
theorem cS_split (p q : Nat → Bool) (N : Nat) : cS p N = cS (fun S => p S && q S) N + cS (fun S => p S && !q S) N := by
  induction N with
  | zero => rfl
  | succ N ih =>
    rw [cS_succ, cS_succ, cS_succ, ih]
    cases p N <;> cases q N <;> simp <;> omega
theorem cS_pos {p : Nat → Bool} {N S : Nat} (hS : S < N) (h : p S = true) : 0 < cS p N := by
  unfold cS
  exact List.countP_pos_iff.2 ⟨S, List.mem_range.2 hS, h⟩

/-- The weight of a set. -/
def hv (W : Nat → Nat) (n S : Nat) : Nat := sN (fun j => if S.testBit j = true then W j else 0) n
theorem sN_one {f g : Nat → Nat} {n i : Nat} (hi : i < n) (h : ∀ j, j < n → j ≠ i → f j = g j) : sN f n + g i = sN g n + f i := by
  induction n with
  | zero => omega
  | succ n ih =>
    rw [sN, sN]
    by_cases e : i = n
    · subst e
      rw [sN_congr (fun j hj => h j (by omega) (by omega))]
      omega
    · rw [h n (by omega) (fun q => e q.symm)]
      have := ih (by omega) (fun j hj hne => h j (by omega) hne)
      omega
section
variable {W : Nat → Nat} {n : Nat}
theorem tog_bit (S i j : Nat) : (S ^^^ 2 ^ i).testBit j = if i = j then !S.testBit j else S.testBit j := by
  rw [Nat.testBit_xor, Nat.testBit_two_pow]
  by_cases e : i = j
  · subst e; simp
  · simp [e]
theorem tog_lt {S i : Nat} (hS : S < 2 ^ n) (hi : i < n) : S ^^^ 2 ^ i < 2 ^ n := Nat.xor_lt_two_pow hS (Nat.pow_lt_pow_right (by omega) hi)
theorem tog_tog (S i : Nat) : (S ^^^ 2 ^ i) ^^^ 2 ^ i = S := by rw [Nat.xor_assoc, Nat.xor_self, Nat.xor_zero]
theorem hv_tog {S i : Nat} (hi : i < n) (hb : S.testBit i = true) : hv W n (S ^^^ 2 ^ i) + W i = hv W n S := by
  have := sN_one (f := fun j => if (S ^^^ 2 ^ i).testBit j = true then W j else 0) (g := fun j => if S.testBit j = true then W j else 0) hi (fun j _ hj => by
    have e : (S ^^^ 2 ^ i).testBit j = S.testBit j := by rw [tog_bit, if_neg (fun e => hj e.symm)]
    rw [e])
  have e0 : (S ^^^ 2 ^ i).testBit i = false := by rw [tog_bit, if_pos rfl, hb]; rfl
  rw [hb, e0] at this
  simpa [hv] using this
theorem hv_le (S : Nat) : hv W n S ≤ sN W n := sN_le (fun j _ => by split <;> omega)
theorem hv_mem {S i : Nat} (hi : i < n) (hb : S.testBit i = true) : W i ≤ hv W n S := by have := hv_tog (W := W) hi hb; omega
theorem hv_full : hv W n (2 ^ n - 1) = sN W n := sN_congr (fun j hj => by rw [Nat.testBit_two_pow_sub_one]; simp [hj])

/-- The set wins; the i-th turns it. -/
def winB2 (W : Nat → Nat) (n q S : Nat) : Bool := decide (q ≤ hv W n S)
def turnB (W : Nat → Nat) (n q i S : Nat) : Bool := S.testBit i && (decide (q ≤ hv W n S) && decide (hv W n S < q + W i))
def swN (W : Nat → Nat) (n q i : Nat) : Nat := cS (turnB W n q i) (2 ^ n)
def allN (W : Nat → Nat) (n q : Nat) : Nat := cS (winB2 W n q) (2 ^ n)
def withN (W : Nat → Nat) (n q i : Nat) : Nat := cS (fun S => winB2 W n q S && S.testBit i) (2 ^ n)
/-- Twice those that win with it, less all that win. -/
theorem sw_with {q i : Nat} (hi : i < n) : swN W n q i + allN W n q = 2 * withN W n q i := by
  have h1 := cS_split (winB2 W n q) (fun S => S.testBit i) (2 ^ n)
  -- those that win without it
  have h2 : cS (fun S => winB2 W n q S && !S.testBit i) (2 ^ n) = cS (fun S => S.testBit i && winB2 W n q (S ^^^ 2 ^ i)) (2 ^ n) := by
    rw [cS_inv (f := fun S => S ^^^ 2 ^ i) (fun S hS => ⟨tog_lt hS hi, tog_tog S i⟩)]
    refine cS_congr (fun S _ => ?_)
    rw [tog_bit, if_pos rfl, Bool.not_not, Bool.and_comm]
  have h3 : withN W n q i = swN W n q i + cS (fun S => S.testBit i && winB2 W n q (S ^^^ 2 ^ i)) (2 ^ n) := by
    unfold withN swN
    rw [cS_split (fun S => winB2 W n q S && S.testBit i) (fun S => decide (hv W n S < q + W i)) (2 ^ n)]
    congr 1
    · refine cS_congr (fun S _ => ?_)
      unfold turnB winB2
      cases S.testBit i <;> simp
    · refine cS_congr (fun S _ => ?_)
      unfold winB2
      cases hb : S.testBit i with
      | false => simp
      | true =>
        have := hv_tog (W := W) hi hb
        simp only [Bool.and_true, Bool.true_and]
        by_cases q1 : q ≤ hv W n (S ^^^ 2 ^ i)
        · rw [decide_eq_true q1, decide_eq_true (show q ≤ hv W n S by omega), decide_eq_false (show ¬ hv W n S < q + W i by omega)]; rfl
        · rw [decide_eq_false q1, decide_eq_true (show hv W n S < q + W i by omega)]; simp
  unfold allN
  rw [h1, h2]
  unfold withN at h3 ⊢
  omega
/-- Two bits exchanged. -/
def swpB (S i k : Nat) : Nat := if S.testBit i = S.testBit k then S else (S ^^^ 2 ^ i) ^^^ 2 ^ k
theorem swpB_bit (S i k j : Nat) : (swpB S i k).testBit j = if j = i then S.testBit k else if j = k then S.testBit i else S.testBit j := by
  unfold swpB
  by_cases h : S.testBit i = S.testBit k
  · rw [if_pos h]
    by_cases e1 : j = i
    · subst e1; rw [if_pos rfl, h]
    · rw [if_neg e1]
      by_cases e2 : j = k
      · subst e2; rw [if_pos rfl, h]
      · rw [if_neg e2]
  · rw [if_neg h, tog_bit, tog_bit]
    by_cases e1 : j = i
    · subst e1
      have : ¬ k = j := fun e => h (by rw [e])
      rw [if_pos rfl, if_neg this, if_pos rfl]
      cases q1 : S.testBit j <;> cases q2 : S.testBit k <;> simp_all
    · rw [if_neg e1]
      by_cases e2 : j = k
      · subst e2
        rw [if_pos rfl, if_pos rfl, if_neg (fun e => e1 e.symm)]
        cases q1 : S.testBit j <;> cases q2 : S.testBit i <;> simp_all
      · rw [if_neg e2, if_neg (fun e => e2 e.symm), if_neg (fun e => e1 e.symm)]
theorem swpB_lt {S i k : Nat} (hS : S < 2 ^ n) (hi : i < n) (hk : k < n) : swpB S i k < 2 ^ n := by
  unfold swpB
  split
  · exact hS
  · exact tog_lt (tog_lt hS hi) hk
theorem swpB_swpB (S i k : Nat) : swpB (swpB S i k) i k = S := by
  apply Nat.eq_of_testBit_eq
  intro j
  rw [swpB_bit, swpB_bit, swpB_bit, swpB_bit]
  by_cases e1 : j = i
  · subst e1
    rw [if_pos rfl]
    by_cases e3 : k = j
    · subst e3; simp
    · rw [if_neg e3, if_pos rfl]
  · rw [if_neg e1]
    by_cases e2 : j = k
    · subst e2; rw [if_pos rfl, if_pos rfl]
    · rw [if_neg e2, if_neg e1, if_neg e2]
/-- Who is heavier wins with no fewer. -/
theorem with_mono {q i k : Nat} (hi : i < n) (hk : k < n) (hw : W k ≤ W i) : withN W n q k ≤ withN W n q i := by
  unfold withN
  rw [cS_inv (f := fun S => swpB S i k) (fun S hS => ⟨swpB_lt hS hi hk, swpB_swpB S i k⟩)]
  refine cS_mono (fun S hS h => ?_)
  rw [Bool.and_eq_true] at h ⊢
  obtain ⟨h1, h2⟩ := h
  have hbi : S.testBit i = true := by
    rw [swpB_bit] at h2
    by_cases e : k = i
    · subst e; rw [if_pos rfl] at h2; exact h2
    · rw [if_neg e, if_pos rfl] at h2; exact h2
  refine ⟨?_, hbi⟩
  unfold winB2 at h1 ⊢
  have h1 := of_decide_eq_true h1
  refine decide_eq_true (Nat.le_trans h1 ?_)
  unfold swpB
  by_cases hbk : S.testBit i = S.testBit k
  · rw [if_pos hbk]; exact Nat.le_refl _
  · rw [if_neg hbk]
    have hkf : S.testBit k = false := by cases q : S.testBit k with
      | false => rfl
      | true => rw [hbi, q] at hbk; exact absurd rfl hbk
    have hik : i ≠ k := fun e => by subst e; rw [hbi] at hkf; cases hkf
    have e1 := hv_tog (W := W) hi hbi
    have hb2 : ((S ^^^ 2 ^ i) ^^^ 2 ^ k).testBit k = true := by rw [tog_bit, if_pos rfl, tog_bit, if_neg hik, hkf]; rfl
    have e2 := hv_tog (W := W) hk hb2
    rw [tog_tog] at e2
    omega
theorem sw_mono {q i k : Nat} (hi : i < n) (hk : k < n) (hw : W k ≤ W i) : swN W n q k ≤ swN W n q i := by
  have h1 := sw_with (W := W) (q := q) hi
  have h2 := sw_with (W := W) (q := q) hk
  have h3 := with_mono (q := q) hi hk hw
  omega
theorem sw_le (q i : Nat) : swN W n q i ≤ allN W n q := cS_mono (fun S _ h => by
  unfold turnB at h; unfold winB2
  rw [Bool.and_eq_true, Bool.and_eq_true] at h
  exact h.2.1)
theorem all_pos {q : Nat} (hq : q ≤ sN W n) : 0 < allN W n q := cS_pos (S := 2 ^ n - 1) (by have := Nat.two_pow_pos n; omega) (by unfold winB2; rw [hv_full]; exact decide_eq_true hq)
/-- Without whom nothing wins turns each set that wins. -/
theorem sw_veto {q i : Nat} (hi : i < n) (hq : q ≤ sN W n) : swN W n q i = allN W n q ↔ sN W n < q + W i := by
  have hlast : hv W n ((2 ^ n - 1) ^^^ 2 ^ i) + W i = sN W n := by
    rw [hv_tog hi (by rw [Nat.testBit_two_pow_sub_one]; exact decide_eq_true hi), hv_full]
  constructor
  · intro h
    by_cases q1 : sN W n < q + W i
    · exact q1
    · exfalso
      -- all but the i-th win, and it does not turn that set
      have h2 := cS_split (winB2 W n q) (turnB W n q i) (2 ^ n)
      have h3 : cS (fun S => winB2 W n q S && turnB W n q i S) (2 ^ n) = swN W n q i := cS_congr (fun S _ => by
        unfold winB2 turnB
        cases S.testBit i <;> simp)
      have h4 : 0 < cS (fun S => winB2 W n q S && !turnB W n q i S) (2 ^ n) := by
        refine cS_pos (S := (2 ^ n - 1) ^^^ 2 ^ i) (tog_lt (by have := Nat.two_pow_pos n; omega) hi) ?_
        have hb : ((2 ^ n - 1) ^^^ 2 ^ i).testBit i = false := by rw [tog_bit, if_pos rfl, Nat.testBit_two_pow_sub_one]; simp [hi]
        unfold winB2 turnB
        rw [hb]
        simp only [Bool.false_and, Bool.not_false, Bool.and_true]
        exact decide_eq_true (by omega)
      unfold allN at h
      omega
  · intro h
    unfold swN allN
    refine cS_congr (fun S hS => ?_)
    unfold turnB winB2
    by_cases q1 : q ≤ hv W n S
    · have hb : S.testBit i = true := by
        cases hb : S.testBit i with
        | true => rfl
        | false =>
          exfalso
          have hb2 : (S ^^^ 2 ^ i).testBit i = true := by rw [tog_bit, if_pos rfl, hb]; rfl
          have := hv_tog (W := W) hi hb2
          rw [tog_tog] at this
          have := hv_le (W := W) (n := n) (S ^^^ 2 ^ i)
          omega
      have hl := hv_le (W := W) (n := n) S
      rw [hb, decide_eq_true q1, decide_eq_true (show hv W n S < q + W i by omega)]; rfl
    · rw [decide_eq_false q1]; simp
/-- The dual game has the same. -/
def dualS (n i S : Nat) : Nat := ((2 ^ n - 1) ^^^ S) ^^^ 2 ^ i
theorem dual_bit {S i j : Nat} (hj : j < n) : (dualS n i S).testBit j = if i = j then S.testBit j else !S.testBit j := by
  unfold dualS
  rw [tog_bit, Nat.testBit_xor, Nat.testBit_two_pow_sub_one]
  by_cases e : i = j
  · subst e; rw [if_pos rfl, if_pos rfl]; simp [hj]
  · rw [if_neg e, if_neg e]; simp [hj]
theorem hv_dual {S i : Nat} (hi : i < n) (hb : S.testBit i = true) : hv W n (dualS n i S) + hv W n S = sN W n + W i := by
  have e : sN (fun j => (if (dualS n i S).testBit j = true then W j else 0) + if S.testBit j = true then W j else 0) n + W i = sN W n + (W i + W i) := by
    have := sN_one (f := fun j => (if (dualS n i S).testBit j = true then W j else 0) + if S.testBit j = true then W j else 0) (g := W) hi (fun j hj hne => by
      have e : (dualS n i S).testBit j = !S.testBit j := by rw [dual_bit hj, if_neg (fun e => hne e.symm)]
      rw [e]
      cases S.testBit j <;> simp)
    have e0 : (dualS n i S).testBit i = true := by rw [dual_bit hi, if_pos rfl, hb]
    rw [e0, hb] at this
    simpa using this
  rw [sN_add] at e
  unfold hv
  omega
theorem sw_dual {q i : Nat} (hi : i < n) (h1 : 1 ≤ q) (hq : q ≤ sN W n) : swN W n (sN W n + 1 - q) i = swN W n q i := by
  unfold swN
  rw [cS_inv (f := dualS n i) (fun S hS => ?_)]
  · refine cS_congr (fun S hS => ?_)
    unfold turnB
    rw [dual_bit hi, if_pos rfl]
    cases hb : S.testBit i with
    | false => rfl
    | true =>
      have e := hv_dual (W := W) hi hb
      have e2 := hv_mem (W := W) hi hb
      have e3 := hv_le (W := W) (n := n) S
      have hh : (sN W n + 1 - q ≤ hv W n (dualS n i S) ↔ hv W n S < q + W i) ∧ (hv W n (dualS n i S) < sN W n + 1 - q + W i ↔ q ≤ hv W n S) := by constructor <;> constructor <;> intro h <;> omega
      rw [decide_eq_decide.2 hh.1, decide_eq_decide.2 hh.2, Bool.and_comm (decide _)]
  · have hp := Nat.two_pow_pos n
    refine ⟨?_, ?_⟩
    · unfold dualS
      exact tog_lt (Nat.xor_lt_two_pow (by omega) hS) hi
    · unfold dualS
      rw [Nat.xor_assoc (2 ^ n - 1) S, ← Nat.xor_assoc (2 ^ n - 1) (2 ^ n - 1), Nat.xor_self, Nat.zero_xor, Nat.xor_assoc, Nat.xor_self, Nat.xor_zero]
end
end Fm

/-
  In how many orders of arrival each player turns those that are there: lists of ints alone, no Go text.
-/
namespace Fm
set_option linter.unusedVariables false

theorem allO_map {n : Nat} {f : List Int → List Int} (hp : ∀ p, p.Perm (sides n) → (f p).Perm (sides n)) (hi : ∀ p q, p.Perm (sides n) → q.Perm (sides n) → f p = f q → p = q) : ((allO n).map f).Perm (allO n) := by
  refine perm_of_sub _ _ (nodup_map_on (allO_nodup n) fun a ha b hb e => hi a b (mem_allO.1 ha) (mem_allO.1 hb) e) (fun x hx => ?_) (by simp)
  rw [List.mem_map] at hx
  obtain ⟨q, hq, rfl⟩ := hx
  exact mem_allO.2 (hp q (mem_allO.1 hq))

def wI (W : Nat → Nat) (x : Int) : Nat := W x.toNat
/-- The weight of those that are there before i. -/
def preP (W : Nat → Nat) (n : Nat) (p : List Int) (i : Int) : Nat := tot (sides n) (fun j => if pos p j < pos p i then wI W j else 0)
def critP (W : Nat → Nat) (n q : Nat) (p : List Int) (i : Int) : Bool := decide (preP W n p i < q) && decide (q ≤ preP W n p i + wI W i)
/-- In how many orders the i-th turns those that are there. -/
def tuN (W : Nat → Nat) (n q i : Nat) : Nat := (allO n).countP (fun p => critP W n q p (i : Int))
section
variable {W : Nat → Nat} {n q : Nat}
theorem tot_take {p : List Int} (hp : p.Nodup) (φ : Int → Nat) {k : Nat} (hk : k ≤ p.length) : tot p (fun x => if pos p x < k then φ x else 0) = tot (p.take k) φ := by
  have e := List.take_append_drop k p
  have h1 : tot p (fun x => if pos p x < k then φ x else 0) = tot (p.take k) (fun x => if pos p x < k then φ x else 0) + tot (p.drop k) (fun x => if pos p x < k then φ x else 0) := by rw [← tot_append, e]
  have h2 : tot (p.take k) (fun x => if pos p x < k then φ x else 0) = tot (p.take k) φ := tot_congr fun x hx => by
    obtain ⟨j, hj, rfl⟩ := List.getElem_of_mem hx
    rw [List.length_take] at hj
    rw [List.getElem_take, ← getD_get (by omega), pos_idx hp (by omega), if_pos (by omega)]
  have h3 : tot (p.drop k) (fun x => if pos p x < k then φ x else 0) = 0 := tot_zero.2 fun x hx => by
    obtain ⟨j, hj, rfl⟩ := List.getElem_of_mem hx
    rw [List.length_drop] at hj
    rw [List.getElem_drop, ← getD_get (by omega), pos_idx hp (by omega), if_neg (by omega)]
  omega
theorem pre_take {p : List Int} (hp : p.Perm (sides n)) {k : Nat} (hk : k < n) : preP W n p (p.getD k 0) = tot (p.take k) (wI W) := by
  have hl := perm_len hp
  unfold preP
  rw [pos_idx (perm_nodup hp) (by omega), ← tot_perm hp]
  exact tot_take (perm_nodup hp) _ (by omega)
theorem tot_W {p : List Int} (hp : p.Perm (sides n)) : tot p (wI W) = tot (sides n) (wI W) := tot_perm hp _
/-- Of each order just one. -/
theorem one_crit {p : List Int} (hp : p.Perm (sides n)) (h1 : 1 ≤ q) (hq : q ≤ tot (sides n) (wI W)) : tot (sides n) (fun i => if critP W n q p i = true then 1 else 0) = 1 := by
  have hl := perm_len hp
  rw [← tot_perm hp]
  have h : ∀ k, k ≤ n → tot (p.take k) (fun i => if critP W n q p i = true then 1 else 0) = if q ≤ tot (p.take k) (wI W) then 1 else 0 := by
    intro k
    induction k with
    | zero => intro _; rw [List.take_zero, tot_nil, tot_nil, if_neg (by omega)]
    | succ k ih =>
      intro hk
      rw [take_succ_getD p k (by omega), tot_append, tot_append, tot_cons, tot_nil, tot_cons, tot_nil, ih (by omega)]
      unfold critP
      rw [pre_take hp (by omega)]
      generalize tot (p.take k) (wI W) = T
      generalize wI W (p.getD k 0) = v
      simp only [Nat.add_zero]
      by_cases a : q ≤ T
      · have a2 : ¬ T < q := by omega
        have a3 : q ≤ T + v := by omega
        simp [a, a2, a3]
      · have a2 : T < q := by omega
        by_cases b : q ≤ T + v
        · simp [a, a2, b]
        · simp [a, a2, b]
  have h2 := h n (Nat.le_refl _)
  rw [List.take_of_length_le (by omega), tot_W hp, if_pos hq] at h2
  exact h2
theorem tu_sum (h1 : 1 ≤ q) (hq : q ≤ tot (sides n) (wI W)) : tot (sides n) (fun i => tuN W n q i.toNat) = (allO n).length := by
  have h : ∀ L : List (List Int), (∀ p ∈ L, p.Perm (sides n)) → tot (sides n) (fun i => L.countP (fun p => critP W n q p i)) = L.length := by
    intro L
    induction L with
    | nil => intro _; exact tot_zero.2 fun x _ => rfl
    | cons p L ih =>
      intro hL
      have e : tot (sides n) (fun i => (p :: L).countP (fun p => critP W n q p i)) = tot (sides n) (fun i => L.countP (fun p => critP W n q p i) + if critP W n q p i = true then 1 else 0) := tot_congr fun i _ => by rw [List.countP_cons]
      rw [e, tot_add, ih (fun r hr => hL r (List.mem_cons_of_mem _ hr)), one_crit (hL p (List.mem_cons_self)) h1 hq]
      rfl
  rw [← h (allO n) (fun p hp => mem_allO.1 hp)]
  refine tot_congr fun i hi => ?_
  have hi := mem_sides.1 hi
  unfold tuN
  rw [show ((i.toNat : Nat) : Int) = i by omega]
theorem tu_null {i : Nat} (hw : W i = 0) : tuN W n q i = 0 := by
  unfold tuN
  rw [List.countP_eq_zero]
  intro p _
  unfold critP wI
  rw [Int.toNat_natCast, hw]
  simp
theorem tu_le (i : Nat) : tuN W n q i ≤ (allO n).length := List.countP_le_length
/-- The names i and k exchanged. -/
def exN (i k : Int) (x : Int) : Int := if x = i then k else if x = k then i else x
theorem exN_exN (i k x : Int) : exN i k (exN i k x) = x := by
  unfold exN
  by_cases a : x = i
  · subst a
    rw [if_pos rfl]
    by_cases b : k = x
    · rw [if_pos b, b]
    · rw [if_neg b, if_pos rfl]
  · rw [if_neg a]
    by_cases b : x = k
    · subst b; rw [if_pos rfl, if_pos rfl]
    · rw [if_neg b, if_neg a, if_neg b]
theorem exN_mem {i k : Nat} (hi : i < n) (hk : k < n) {x : Int} (hx : x ∈ sides n) : exN i k x ∈ sides n := by
  have hx := mem_sides.1 hx
  unfold exN
  apply mem_sides.2
  split
  · omega
  · split <;> omega
theorem exN_sides {i k : Nat} (hi : i < n) (hk : k < n) : ((sides n).map (exN i k)).Perm (sides n) := by
  refine perm_of_nodup_subset _ _ ?_ (fun x hx => ?_) (by simp)
  · unfold List.Nodup
    rw [List.pairwise_map]
    refine List.Pairwise.imp ?_ (sides_nodup n)
    intro a b hne e
    have : exN i k (exN i k a) = exN i k (exN i k b) := by rw [e]
    rw [exN_exN, exN_exN] at this
    exact hne this
  · rw [List.mem_map] at hx
    obtain ⟨y, hy, rfl⟩ := hx
    exact exN_mem hi hk hy
theorem ex_perm {i k : Nat} (hi : i < n) (hk : k < n) {p : List Int} (hp : p.Perm (sides n)) : (p.map (exN i k)).Perm (sides n) := (hp.map _).trans (exN_sides hi hk)
theorem ex_pos {i k : Nat} (hi : i < n) (hk : k < n) {p : List Int} (hp : p.Perm (sides n)) {x : Int} (hx : x ∈ sides n) : pos (p.map (exN i k)) x = pos p (exN i k x) := by
  have hm := hp.mem_iff.2 (exN_mem hi hk hx)
  obtain ⟨j, hj, hjx, hpj⟩ := pos_mem (perm_nodup hp) hm
  have hg : (p.map (exN i k)).getD j 0 = x := by
    rw [getD_get (by rw [List.length_map]; exact hj), List.getElem_map, ← getD_get hj, hjx, exN_exN]
  have h := pos_idx (perm_nodup (ex_perm hi hk hp)) (k := j) (by rw [List.length_map]; exact hj)
  rw [hg] at h
  rw [h, hpj]
theorem pre_ex {i k : Nat} (hi : i < n) (hk : k < n) {p : List Int} (hp : p.Perm (sides n)) : preP W n (p.map (exN i k)) i = tot (sides n) (fun j => if pos p j < pos p (k : Int) then wI W (exN i k j) else 0) := by
  unfold preP
  have hki : exN i k (i : Int) = k := by unfold exN; rw [if_pos rfl]
  have e1 : tot (sides n) (fun j => if pos (p.map (exN i k)) j < pos (p.map (exN i k)) (i : Int) then wI W j else 0) = tot (sides n) (fun j => if pos p (exN i k j) < pos p (k : Int) then wI W (exN i k (exN i k j)) else 0) := tot_congr fun j hj => by
    rw [ex_pos hi hk hp hj, ex_pos hi hk hp (mem_sides.2 ⟨by omega, by omega⟩), hki, exN_exN]
  rw [e1]
  have e2 := tot_map (sides n) (exN i k) (fun j => if pos p j < pos p (k : Int) then wI W (exN i k j) else 0)
  rw [← e2]
  exact tot_perm (exN_sides hi hk) _
theorem tot_diff {S : List Int} (hS : S.Nodup) {a : Int} (ha : a ∈ S) {φ ψ : Int → Nat} (h : ∀ x ∈ S, x ≠ a → φ x = ψ x) : tot S φ + ψ a = tot S ψ + φ a := by
  induction S with
  | nil => cases ha
  | cons x S ih =>
    rw [tot_cons, tot_cons]
    rw [List.nodup_cons] at hS
    by_cases e : x = a
    · subst e
      rw [tot_congr (fun y hy => h y (List.mem_cons_of_mem _ hy) (fun q => hS.1 (by subst q; exact hy)))]
      omega
    · have ha' : a ∈ S := by
        rcases List.mem_cons.1 ha with h2 | h2
        · exact absurd h2.symm e
        · exact h2
      have := ih hS.2 ha' (fun y hy => h y (List.mem_cons_of_mem _ hy))
      rw [h x (List.mem_cons_self) e]
      omega
/-- Who is heavier turns no fewer. -/
theorem tu_mono {i k : Nat} (hi : i < n) (hk : k < n) (hw : W k ≤ W i) : tuN W n q k ≤ tuN W n q i := by
  by_cases hik : i = k
  · subst hik; exact Nat.le_refl _
  unfold tuN
  have hperm := allO_map (n := n) (f := fun p => p.map (exN i k)) (fun p hp => ex_perm hi hk hp) (fun p r hp hr e => by
    have : (p.map (exN i k)).map (exN i k) = (r.map (exN i k)).map (exN i k) := by rw [e]
    rw [List.map_map, List.map_map] at this
    have id : ∀ l : List Int, l.map (exN i k ∘ exN i k) = l := fun l => by
      have : exN (i : Int) k ∘ exN i k = _root_.id := by funext x; exact exN_exN _ _ x
      rw [this, List.map_id]
    rwa [id, id] at this)
  rw [← hperm.countP_eq (p := fun p => critP W n q p (i : Int)), List.countP_map]
  apply List.countP_mono_left
  intro p hp h
  have hp := mem_allO.1 hp
  rw [Function.comp_apply]
  unfold critP at h ⊢
  rw [Bool.and_eq_true, decide_eq_true_eq, decide_eq_true_eq] at h ⊢
  rw [pre_ex hi hk hp]
  have hm : (i : Int) ∈ sides n := mem_sides.2 ⟨by omega, by omega⟩
  have d := tot_diff (sides_nodup n) hm (φ := fun j => if pos p j < pos p (k : Int) then wI W (exN i k j) else 0) (ψ := fun j => if pos p j < pos p (k : Int) then wI W j else 0) (fun x hx hne => by
    by_cases e : x = (k : Int)
    · subst e; rw [if_neg (by omega), if_neg (by omega)]
    · have : exN (i : Int) k x = x := by unfold exN; rw [if_neg hne, if_neg e]
      rw [this])
  have hki : exN (i : Int) k (i : Int) = k := by unfold exN; rw [if_pos rfl]
  unfold preP at h
  have hwi : wI W (i : Int) = W i := by unfold wI; rw [Int.toNat_natCast]
  have hwk : wI W (k : Int) = W k := by unfold wI; rw [Int.toNat_natCast]
  rw [hki] at d
  rw [hwk] at h d
  rw [hwi] at d ⊢
  by_cases c : pos p (i : Int) < pos p (k : Int)
  · rw [if_pos c, if_pos c] at d
    omega
  · rw [if_neg c, if_neg c] at d
    omega
/-- In the dual game as many. -/
theorem pre_rev {p : List Int} (hp : p.Perm (sides n)) {i : Nat} (hi : i < n) : preP W n p.reverse i + preP W n p i + W i = tot (sides n) (wI W) := by
  unfold preP
  have hm : (i : Int) ∈ sides n := mem_sides.2 ⟨by omega, by omega⟩
  rw [← tot_add]
  have d := tot_diff (sides_nodup n) hm (φ := fun j => (if pos p.reverse j < pos p.reverse (i : Int) then wI W j else 0) + if pos p j < pos p (i : Int) then wI W j else 0) (ψ := wI W) (fun x hx hne => by
    have hx' := mem_sides.1 hx
    obtain ⟨y, rfl⟩ : ∃ y : Nat, x = y := ⟨x.toNat, by omega⟩
    have hne2 : pos p (y : Int) ≠ pos p (i : Int) := fun e => hne (pos_inj (perm_nodup hp) (hp.mem_iff.2 hx) (hp.mem_iff.2 hm) e)
    rw [pos_rev2 hp (by omega), pos_rev2 hp hi]
    by_cases c : pos p (y : Int) < pos p (i : Int)
    · rw [if_pos c, if_neg (by omega)]; omega
    · rw [if_neg c, if_pos (by omega)]; omega)
  rw [if_neg (by omega), if_neg (by omega)] at d
  have hwi : wI W (i : Int) = W i := by unfold wI; rw [Int.toNat_natCast]
  omega
theorem tu_dual {i : Nat} (hi : i < n) (h1 : 1 ≤ q) (hq : q ≤ tot (sides n) (wI W)) : tuN W n (tot (sides n) (wI W) + 1 - q) i = tuN W n q i := by
  unfold tuN
  have hperm := allO_map (n := n) (f := List.reverse) (fun p hp => (List.reverse_perm p).trans hp) (fun p r _ _ e => by
    have : p.reverse.reverse = r.reverse.reverse := by rw [e]
    rwa [List.reverse_reverse, List.reverse_reverse] at this)
  rw [← hperm.countP_eq, List.countP_map]
  apply List.countP_congr
  intro p hp
  have hp := mem_allO.1 hp
  have e := pre_rev (W := W) hp hi
  rw [Function.comp_apply]
  unfold critP
  have hwi : wI W (i : Int) = W i := by unfold wI; rw [Int.toNat_natCast]
  rw [hwi, Bool.and_eq_true, Bool.and_eq_true, decide_eq_true_eq, decide_eq_true_eq, decide_eq_true_eq, decide_eq_true_eq]
  omega
theorem tot_sN (W : Nat → Nat) (n : Nat) : tot (sides n) (wI W) = sN W n := by
  induction n with
  | zero => rfl
  | succ n ih => rw [tot_succ, ih, sN]; unfold wI; rw [Int.toNat_natCast]
theorem tu_sumN (h1 : 1 ≤ q) (hq : q ≤ sN W n) : sN (tuN W n q) n = (allO n).length := by
  rw [← tu_sum (W := W) h1 (by rw [tot_sN]; exact hq), ← tot_sN]
  rfl
end
end Fm

/-
  Games given by a number for each set: what each adds in an order of arrival, over all orders, turned about, renamed: numbers and lists alone, no Go text.
-/
namespace Fm
set_option linter.unusedVariables false

/-- A sum over a list. -/
def tI (S : List Int) (φ : Int → Int) : Int := (S.map φ).sum
theorem tI_nil (φ : Int → Int) : tI [] φ = 0 := rfl
theorem tI_cons (x : Int) (S : List Int) (φ : Int → Int) : tI (x :: S) φ = φ x + tI S φ := by simp [tI]
theorem tI_append (S T : List Int) (φ : Int → Int) : tI (S ++ T) φ = tI S φ + tI T φ := by simp [tI, List.sum_append]
theorem sum_permI {l m : List Int} (h : l.Perm m) : l.sum = m.sum := by
  induction h with
  | nil => rfl
  | cons x _ ih => simp [ih]
  | swap x y l => simp; omega
  | trans _ _ h1 h2 => exact h1.trans h2
theorem tI_perm {S T : List Int} (h : S.Perm T) (φ : Int → Int) : tI S φ = tI T φ := sum_permI (h.map φ)
theorem tI_congr {S : List Int} {φ ψ : Int → Int} (h : ∀ x ∈ S, φ x = ψ x) : tI S φ = tI S ψ := by unfold tI; rw [List.map_congr_left h]
theorem tI_add (S : List Int) (φ ψ : Int → Int) : tI S (fun x => φ x + ψ x) = tI S φ + tI S ψ := by
  induction S with
  | nil => rfl
  | cons x S ih => rw [tI_cons, tI_cons, tI_cons, ih]; omega
theorem tI_le {S : List Int} {φ ψ : Int → Int} (h : ∀ x ∈ S, φ x ≤ ψ x) : tI S φ ≤ tI S ψ := by
  induction S with
  | nil => exact Int.le_refl _
  | cons x S ih => rw [tI_cons, tI_cons]; have := h x (by simp); have := ih (fun y hy => h y (by simp [hy])); omega
/-- A sum over a list of orders. -/
def tL (L : List (List Int)) (φ : List Int → Int) : Int := (L.map φ).sum
theorem tL_cons (p : List Int) (L : List (List Int)) (φ : List Int → Int) : tL (p :: L) φ = φ p + tL L φ := by simp [tL]
theorem tL_append (L M : List (List Int)) (φ : List Int → Int) : tL (L ++ M) φ = tL L φ + tL M φ := by simp [tL, List.sum_append]
theorem tL_perm {L M : List (List Int)} (h : L.Perm M) (φ : List Int → Int) : tL L φ = tL M φ := sum_permI (h.map φ)
theorem tL_congr {L : List (List Int)} {φ ψ : List Int → Int} (h : ∀ p ∈ L, φ p = ψ p) : tL L φ = tL L ψ := by unfold tL; rw [List.map_congr_left h]
theorem tL_add (L : List (List Int)) (φ ψ : List Int → Int) : tL L (fun p => φ p + ψ p) = tL L φ + tL L ψ := by
  induction L with
  | nil => rfl
  | cons p L ih => rw [tL_cons, tL_cons, tL_cons, ih]; omega
theorem tL_const (L : List (List Int)) (c : Int) : tL L (fun _ => c) = (L.length : Int) * c := by
  induction L with
  | nil => simp [tL]
  | cons p L ih => rw [tL_cons, ih, List.length_cons, Int.natCast_succ, Int.add_mul, Int.one_mul, Int.add_comm]
theorem tL_le {L : List (List Int)} {φ ψ : List Int → Int} (h : ∀ p ∈ L, φ p ≤ ψ p) : tL L φ ≤ tL L ψ := by
  induction L with
  | nil => exact Int.le_refl _
  | cons p L ih => rw [tL_cons, tL_cons]; have := h p (by simp); have := ih (fun q hq => h q (by simp [hq])); omega
theorem tI_tL (S : List Int) (L : List (List Int)) (φ : List Int → Int → Int) : tI S (fun i => tL L (fun p => φ p i)) = tL L (fun p => tI S (φ p)) := by
  induction S with
  | nil => have := tL_const L 0; simp only [tI_nil]; rw [this]; simp
  | cons x S ih =>
    rw [tI_cons, ih, ← tL_add]
    exact tL_congr (fun p _ => by rw [tI_cons])
theorem tL_bd {L : List (List Int)} {φ : List Int → Int} {B : Int} (h : ∀ p ∈ L, -B ≤ φ p ∧ φ p ≤ B) : -((L.length : Int) * B) ≤ tL L φ ∧ tL L φ ≤ (L.length : Int) * B := by
  have h1 := tL_le (L := L) (φ := fun _ => -B) (ψ := φ) (fun p hp => (h p hp).1)
  have h2 := tL_le (L := L) (φ := φ) (ψ := fun _ => B) (fun p hp => (h p hp).2)
  rw [tL_const] at h1 h2
  rw [Int.mul_neg] at h1
  exact ⟨h1, h2⟩

/-- The set of the first k of p. -/
def b2 (j : Nat) : Nat := 2 ^ j
def pS (p : List Int) (k : Nat) : Nat := tot (p.take k) (wI b2)
/-- What x adds to those that are there before it. -/
def rowG (v : Nat → Int) (n : Nat) (p : List Int) (x : Int) : Int := v (preP b2 n p x + 2 ^ x.toNat) - v (preP b2 n p x)
/-- Over all orders. -/
def shG (v : Nat → Int) (n : Nat) (x : Int) : Int := tL (allO n) (fun p => rowG v n p x)
section
variable {n : Nat} {v : Nat → Int} {p : List Int}
theorem hv_self : ∀ (n S : Nat), hv b2 n S = S % 2 ^ n := by
  intro n
  induction n with
  | zero => intro S; rw [Nat.pow_zero, Nat.mod_one]; rfl
  | succ n ih =>
    intro S
    have h := ih S
    unfold hv at h ⊢
    rw [sN, h, Nat.mod_pow_succ, Nat.testBit_eq_decide_div_mod_eq]
    unfold b2
    have : S / 2 ^ n % 2 = 0 ∨ S / 2 ^ n % 2 = 1 := by omega
    rcases this with q | q <;> rw [q] <;> simp
theorem hv_id {S : Nat} (h : S < 2 ^ n) : hv b2 n S = S := by rw [hv_self, Nat.mod_eq_of_lt h]
theorem add_tog {S x : Nat} (hx : x < n) (hS : S < 2 ^ n) (hb : S.testBit x = false) : S + 2 ^ x = S ^^^ 2 ^ x ∧ S + 2 ^ x < 2 ^ n := by
  have h1 : (S ^^^ 2 ^ x).testBit x = true := by rw [tog_bit, if_pos rfl, hb]; rfl
  have h2 := hv_tog (W := b2) (n := n) hx h1
  rw [tog_tog, hv_id hS, hv_id (tog_lt hS hx)] at h2
  have h3 := tog_lt (n := n) hS hx
  unfold b2 at h2
  omega
theorem hv_add {W : Nat → Nat} {S x : Nat} (hx : x < n) (hS : S < 2 ^ n) (hb : S.testBit x = false) : hv W n (S + 2 ^ x) = hv W n S + W x := by
  rw [(add_tog hx hS hb).1]
  have h1 : (S ^^^ 2 ^ x).testBit x = true := by rw [tog_bit, if_pos rfl, hb]; rfl
  have h2 := hv_tog (W := W) (n := n) hx h1
  rw [tog_tog] at h2
  omega
theorem take_one {k : Nat} (hk : k < p.length) (φ : Int → Nat) : tot (p.take (k + 1)) φ = tot (p.take k) φ + φ (p.getD k 0) := by
  rw [take_succ_getD p k hk, tot_append, tot_cons, tot_nil]; omega
theorem at_nat (hp : p.Perm (sides n)) {k : Nat} (hk : k < n) : ∃ x : Nat, p.getD k 0 = x ∧ x < n := by
  have := mem_sides.1 (hp.mem_iff.1 (getD_mem p k (by rw [perm_len hp]; exact hk)))
  exact ⟨(p.getD k 0).toNat, by omega, by omega⟩
theorem pS_zero (p : List Int) : pS p 0 = 0 := rfl
/-- The first k of p, as a set. -/
theorem pS_all (hp : p.Perm (sides n)) : ∀ k, k ≤ n → pS p k < 2 ^ n ∧ (∀ j, j < n → ((pS p k).testBit j = true ↔ (j : Int) ∈ p.take k)) ∧ ∀ W : Nat → Nat, hv W n (pS p k) = tot (p.take k) (wI W) := by
  intro k
  have hl := perm_len hp
  have hnd := perm_nodup hp
  induction k with
  | zero =>
    intro _
    refine ⟨by rw [pS_zero]; exact Nat.two_pow_pos n, fun j hj => by rw [pS_zero]; simp, fun W => ?_⟩
    rw [pS_zero]
    have : hv W n 0 = sN (fun _ => 0) n := sN_congr (fun j _ => by simp)
    rw [this, sN_zero]; rfl
  | succ k ih =>
    intro hk
    obtain ⟨h1, h2, h3⟩ := ih (by omega)
    obtain ⟨x, hx, hxn⟩ := at_nat hp (show k < n by omega)
    have hnot : (x : Int) ∉ p.take k := by
      intro hm
      obtain ⟨j, hj, he⟩ := List.getElem_of_mem hm
      rw [List.length_take] at hj
      rw [List.getElem_take, ← getD_get (by omega), ← hx] at he
      have e1 := pos_idx hnd (k := j) (by omega)
      have e2 := pos_idx hnd (k := k) (by omega)
      rw [he] at e1
      omega
    have hb : (pS p k).testBit x = false := by
      cases q : (pS p k).testBit x with
      | false => rfl
      | true => exact absurd ((h2 x hxn).1 q) hnot
    have hs : pS p (k + 1) = pS p k + 2 ^ x := by
      unfold pS
      rw [take_one (by omega), hx]
      unfold wI b2
      rw [Int.toNat_natCast]
    obtain ⟨a1, a2⟩ := add_tog hxn h1 hb
    refine ⟨by rw [hs]; exact a2, fun j hj => ?_, fun W => ?_⟩
    · rw [hs, a1, tog_bit, take_succ_getD p k (by omega), List.mem_append, List.mem_singleton, hx]
      by_cases e : x = j
      · subst e; simp [hb]
      · rw [if_neg e, h2 j hj]
        constructor
        · exact .inl
        · rintro (q | q)
          · exact q
          · omega
    · rw [hs, hv_add hxn h1 hb, h3, take_one (by omega), hx]
      unfold wI
      rw [Int.toNat_natCast]
theorem pS_step (hp : p.Perm (sides n)) {k : Nat} (hk : k < n) {x : Nat} (hx : p.getD k 0 = x) : pS p (k + 1) = pS p k + 2 ^ x := by
  have hl := perm_len hp
  unfold pS
  rw [take_one (by omega), hx]
  unfold wI b2
  rw [Int.toNat_natCast]
theorem pS_end (hp : p.Perm (sides n)) : pS p n = 2 ^ n - 1 := by
  have hl := perm_len hp
  obtain ⟨h1, h2, _⟩ := pS_all hp n (Nat.le_refl _)
  apply Nat.eq_of_testBit_eq
  intro j
  rw [Nat.testBit_two_pow_sub_one]
  by_cases hj : j < n
  · rw [decide_eq_true hj]
    have := (h2 j hj).2 (by rw [List.take_of_length_le (by omega)]; exact hp.mem_iff.2 (mem_sides.2 ⟨by omega, by omega⟩))
    exact this
  · rw [decide_eq_false hj]
    exact Nat.testBit_lt_two_pow (Nat.lt_of_lt_of_le h1 (Nat.pow_le_pow_right (by omega) (by omega)))
theorem pre_pS (hp : p.Perm (sides n)) {k : Nat} (hk : k < n) : preP b2 n p (p.getD k 0) = pS p k := pre_take hp hk
theorem row_at (hp : p.Perm (sides n)) {k : Nat} (hk : k < n) : rowG v n p (p.getD k 0) = v (pS p (k + 1)) - v (pS p k) := by
  obtain ⟨x, hx, _⟩ := at_nat hp hk
  unfold rowG
  rw [pre_pS hp hk, pS_step hp hk hx, hx, Int.toNat_natCast]
/-- The set before i: less than all, without i, of the weight of those before. -/
theorem pre_all (hp : p.Perm (sides n)) {i : Nat} (hi : i < n) : preP b2 n p i < 2 ^ n ∧ (preP b2 n p i).testBit i = false ∧ ∀ W : Nat → Nat, hv W n (preP b2 n p i) = preP W n p i := by
  have hl := perm_len hp
  have hnd := perm_nodup hp
  obtain ⟨k, hk, h1, h2⟩ := pos_mem hnd (hp.mem_iff.2 (mem_sides.2 ⟨show (0 : Int) ≤ (i : Int) by omega, by omega⟩))
  have hkn : k < n := by omega
  obtain ⟨a1, a2, a3⟩ := pS_all hp k (by omega)
  rw [← h1, pre_pS hp hkn]
  refine ⟨a1, ?_, fun W => by rw [a3, pre_take hp hkn]⟩
  cases q : (pS p k).testBit i with
  | false => rfl
  | true =>
    have hm := (a2 i hi).1 q
    obtain ⟨j, hj, he⟩ := List.getElem_of_mem hm
    rw [List.length_take] at hj
    rw [List.getElem_take, ← getD_get (by omega)] at he
    have e1 := pos_idx hnd (k := j) (by omega)
    rw [he] at e1
    omega
/-- What all add in one order. -/
theorem row_sum (hp : p.Perm (sides n)) : tI (sides n) (rowG v n p) = v (2 ^ n - 1) - v 0 := by
  have hl := perm_len hp
  have h : ∀ k, k ≤ n → tI (p.take k) (rowG v n p) = v (pS p k) - v 0 := by
    intro k
    induction k with
    | zero => intro _; rw [pS_zero]; simp [tI]
    | succ k ih =>
      intro hk
      rw [take_succ_getD p k (by omega), tI_append, tI_cons, tI_nil, ih (by omega), row_at hp (by omega)]
      omega
  have := h n (Nat.le_refl _)
  rw [List.take_of_length_le (by omega), pS_end hp] at this
  rw [← tI_perm hp, this]
theorem sh_sum : tI (sides n) (shG v n) = ((allO n).length : Int) * (v (2 ^ n - 1) - v 0) := by
  unfold shG
  rw [tI_tL, ← tL_const]
  exact tL_congr (fun p hp => row_sum (mem_allO.1 hp))
theorem sh_add (v w : Nat → Int) (x : Int) : shG (fun S => v S + w S) n x = shG v n x + shG w n x := by
  unfold shG
  rw [← tL_add]
  exact tL_congr (fun p _ => by unfold rowG; dsimp only; omega)
theorem sh_congr {w : Nat → Int} (h : ∀ S, S < 2 ^ n → v S = w S) {i : Nat} (hi : i < n) : shG v n i = shG w n i := by
  unfold shG
  refine tL_congr (fun p hp => ?_)
  obtain ⟨h1, h2, _⟩ := pre_all (mem_allO.1 hp) hi
  unfold rowG
  rw [Int.toNat_natCast, h _ h1, h _ (add_tog hi h1 h2).2]
/-- What each could hinder. -/
theorem sh_dual {i : Nat} (hi : i < n) : shG (fun S => v (2 ^ n - 1) - v (2 ^ n - 1 - S)) n i = shG v n i := by
  have hr : ((allO n).map List.reverse).Perm (allO n) := allO_map (fun p hp => (List.reverse_perm p).trans hp) (fun p q _ _ h => by have := congrArg List.reverse h; simpa using this)
  unfold shG
  rw [← tL_perm hr]
  unfold tL
  rw [List.map_map]
  refine congrArg List.sum (List.map_congr_left (fun p hp => ?_))
  have hp := mem_allO.1 hp
  have h := pre_rev (W := b2) hp hi
  have hf : tot (sides n) (wI b2) = 2 ^ n - 1 := by
    rw [tot_sN, ← hv_full, hv_id (by have := Nat.two_pow_pos n; omega)]
  rw [hf, show b2 i = 2 ^ i from rfl] at h
  unfold rowG
  simp only [Function.comp_apply, Int.toNat_natCast]
  generalize preP b2 n p.reverse i = A at *
  generalize preP b2 n p i = B at *
  generalize 2 ^ i = I at *
  generalize 2 ^ n - 1 = F at *
  rw [show F - (A + I) = B by omega, show F - A = B + I by omega]
  omega
/-- Who makes each set worth as much more. -/
theorem sh_idle {k : Nat} (hk : k < n) {own : Int} (h : ∀ S, S < 2 ^ n → S.testBit k = false → v (S + 2 ^ k) = v S + own) : shG v n k = ((allO n).length : Int) * own := by
  unfold shG
  rw [← tL_const]
  refine tL_congr (fun p hp => ?_)
  obtain ⟨h1, h2, _⟩ := pre_all (mem_allO.1 hp) hk
  unfold rowG
  rw [Int.toNat_natCast, h _ h1 h2]
  omega
/-- Renamed. -/
def rnL (N p : List Int) : List Int := p.map fun x => N.getD x.toNat 0
theorem rn_perm {N : List Int} (hN : N.Perm (sides n)) {p : List Int} (hp : p.Perm (sides n)) : (rnL N p).Perm (sides n) := by
  have hl := perm_len hN
  have h := hp.map (fun x => N.getD x.toNat 0)
  have e : (sides n).map (fun z => N.getD z.toNat 0) = N := by rw [← hl]; exact (as_map N).symm
  rw [e] at h
  exact h.trans hN
def nmW (N : List Int) (i : Nat) : Nat := 2 ^ (N.getD i 0).toNat
theorem ren_pS {N : List Int} (hN : N.Perm (sides n)) (hp : p.Perm (sides n)) {k : Nat} (hk : k ≤ n) : pS (rnL N p) k = hv (nmW N) n (pS p k) := by
  rw [(pS_all hp k hk).2.2]
  unfold pS rnL
  rw [← List.map_take]
  unfold tot
  rw [List.map_map]
  rfl
theorem sh_ren {N : List Int} (hN : N.Perm (sides n)) {w : Nat → Int} (hw : ∀ S, S < 2 ^ n → w (hv (nmW N) n S) = v S) {i : Nat} (hi : i < n) : shG w n (N.getD i 0) = shG v n i := by
  have hr : ((allO n).map (rnL N)).Perm (allO n) := allO_map (fun p hp => rn_perm hN hp) (fun p q hp hq h => by
    have hl := perm_len hp
    have hl2 := perm_len hq
    apply List.ext_getElem (by omega)
    intro k h1 h2
    obtain ⟨x, hx, hxn⟩ := at_nat hp (show k < n by omega)
    obtain ⟨y, hy, hyn⟩ := at_nat hq (show k < n by omega)
    have e : (rnL N p).getD k 0 = (rnL N q).getD k 0 := by rw [h]
    unfold rnL at e
    rw [List.getD_eq_getElem?_getD, List.getD_eq_getElem?_getD, List.getElem?_map, List.getElem?_map, List.getElem?_eq_getElem h1, List.getElem?_eq_getElem h2] at e
    rw [← getD_get h1, ← getD_get h2, hx, hy]
    rw [← getD_get h1, ← getD_get h2, hx, hy] at e
    simp only [Option.map_some, Option.getD_some, Int.toNat_natCast] at e
    have hNn := perm_nodup hN
    have hNl := perm_len hN
    have e1 := pos_idx hNn (k := x) (by omega)
    have e2 := pos_idx hNn (k := y) (by omega)
    rw [e] at e1
    have : x = y := by omega
    rw [this])
  unfold shG
  rw [← tL_perm hr]
  unfold tL
  rw [List.map_map]
  refine congrArg List.sum (List.map_congr_left (fun p hp => ?_))
  have hp := mem_allO.1 hp
  have hl := perm_len hp
  have hnd := perm_nodup hp
  obtain ⟨k, hk, h1, h2⟩ := pos_mem hnd (hp.mem_iff.2 (mem_sides.2 ⟨show (0 : Int) ≤ (i : Int) by omega, by omega⟩))
  have hkn : k < n := by omega
  have e1 : (rnL N p).getD k 0 = N.getD i 0 := by
    unfold rnL
    rw [List.getD_eq_getElem?_getD, List.getElem?_map, List.getElem?_eq_getElem hk, ← getD_get hk, h1]
    simp
  rw [Function.comp_apply, ← e1, row_at (rn_perm hN hp) hkn, ← h1, row_at hp hkn, ren_pS hN hp (by omega), ren_pS hN hp (by omega), hw _ (pS_all hp (k + 1) (by omega)).1, hw _ (pS_all hp k (by omega)).1]
/-- A vote by weights as such a game. -/
theorem sh_turns {W : Nat → Nat} {q i : Nat} (hi : i < n) : shG (fun S => if q ≤ hv W n S then 1 else 0) n i = (tuN W n q i : Int) := by
  unfold shG tuN
  have : ∀ L : List (List Int), (∀ p ∈ L, p.Perm (sides n)) → tL L (fun p => rowG (fun S => if q ≤ hv W n S then 1 else 0) n p i) = ((L.countP (fun p => critP W n q p (i : Int)) : Nat) : Int) := by
    intro L
    induction L with
    | nil => intro _; rfl
    | cons p L ih =>
      intro hL
      obtain ⟨h1, h2, h3⟩ := pre_all (hL p (by simp)) hi
      rw [tL_cons, ih (fun q hq => hL q (by simp [hq])), List.countP_cons]
      unfold rowG critP
      dsimp only
      rw [Int.toNat_natCast, hv_add hi h1 h2, h3]
      unfold wI
      rw [Int.toNat_natCast]
      by_cases c1 : q ≤ preP W n p i
      · rw [if_pos (by omega), if_pos c1, decide_eq_false (show ¬ preP W n p i < q by omega)]
        simp
      · rw [if_neg c1, decide_eq_true (show preP W n p i < q by omega)]
        by_cases c2 : q ≤ preP W n p i + W i
        · rw [if_pos c2, decide_eq_true c2]; simp; omega
        · rw [if_neg c2, decide_eq_false c2]; simp
  exact this _ (fun p hp => mem_allO.1 hp)
end
end Fm

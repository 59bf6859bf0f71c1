/-
  Several of our texts, one behind the other, each under its own words; no condition but those that each states.
-/
import Derived.Test.YthcaipnlgbnfkaaShelf
import Derived.Test.YthcaipnlgbnfkaaPureA
import Derived.WalkKit
import Derived.KernelRfl
import Derived.Laws.NewBlocks
import Derived.Test.YthcaipnlgbnfkaaM4
import Derived.Test.YthcaipnlgbnfkaaProg
import Derived.Laws.ResultCell
import Derived.Deep.QuietTactic
import Derived.BigQuiet
/-
  slices.Delete of one element of a row of the caller's own.
-/
namespace Go.Proofs.Ythcaipnlgbnfkaa
open Go.RowKit Fm
set_option linter.unusedVariables false

/-- slices.Delete of one element of a row of the caller's own. -/
theorem delete_own (base g n cap k : Nat) (l : List Int) (w : World) (hown : w.ownsRow base 3 1 (.slice (some ⟨g, 0, none⟩) n cap) n (I l)) (hk : k < n) :
    Calls Try.prog 66 #[.slice (some ⟨g, 0, none⟩) n cap, .int .i64 k, .int .i64 ((k : Int) + 1)] w fun e w' =>
      e = .returned (.slice (some ⟨g, 0, none⟩) (n - 1) cap) ∧ w'.ownsRow base 3 1 (.slice (some ⟨g, 0, none⟩) (n - 1) cap) (n - 1) (I (l.eraseIdx k)) ∧ w.grownBy w' (some g) := by
  obtain ⟨g', cap', hv, _, _, hnc, hcm, hl, hH⟩ := Lib.holds_of_ownsRow hown (by simp)
  injection hv with hv1 _ hv3
  injection hv1 with hv1
  injection hv1 with hv1
  subst hv1; subst hv3
  have h := Try.slices_Delete_int g 0 cap k (k + 1) l w hH (by omega) (by unfold maxLen at hcm; omega) (by omega) (by omega)
  rw [hl] at h
  have e1 : k + 1 - k = 1 := by omega
  rw [e1] at h
  refine h.mono ?_
  rintro e w' ⟨rfl, q, rfl⟩
  refine ⟨rfl, ?_, putRow_grown _ _ _ _ _ _⟩
  have h2 := Lib.ownsRow_putRow (q := q) (k := n - 1) (ys := l.take k ++ l.drop (k + 1) ++ List.replicate 1 0) hown (by simp; omega) (by omega)
  have e2 : (l.take k ++ l.drop (k + 1) ++ List.replicate 1 0).take (n - 1) = l.eraseIdx k := by
    rw [List.eraseIdx_eq_take_drop_succ, List.take_append_of_le_length (by simp; omega), List.take_of_length_le (by simp; omega)]
  rw [e2] at h2
  exact h2
end Go.Proofs.Ythcaipnlgbnfkaa

/-
  plumekeep.OrderOf: what it returns; nothing that was there is written.
-/
namespace Go.Proofs.Ythcaipnlgbnfkaa
open Go.RowKit Fm
set_option linter.unusedVariables false

set_option maxHeartbeats 1000000 in
set_option maxRecDepth 100000 in
theorem orderOf_any (n : Nat) (a : Option Addr) (m c : Nat) (l : List Int) (w : World) (B : Nat) (hB : B ≤ w.heap.size) (hr : Rd w B a m l) (h1 : 1 ≤ n) (h6 : n ≤ 6) (hwf : ∀ x ∈ l, -9223372036854775808 ≤ x ∧ x ≤ 9223372036854775807) :
    Calls Try.prog 33 #[.int .i64 n, .slice a m c] w fun e w' => ∃ v, e = .returned v ∧ w'.ownsRow w.heap.size 3 1 v n (I (ordOf n l)) ∧ Below w.heap.size w w' := by
  have HR := Lib.hid hr
  have HW := Lib.hid hwf
  clear hr hwf
  go_enter Try.func33, Try.ntmps33
  go_wp2_with fail
  refine (sides_any n w (by omega)).mono ?_
  rintro e w1 ⟨v, rfl, hown, hb⟩
  obtain ⟨gl, cl, rfl, hg1, hg2, _⟩ := own_form hown h1
  have hz1 := hb.size
  go_wp2_with fail
  go_loopw [5, 6, 12] (fun s5 s6 i wr => ∃ k cl : Nat, k ≤ n ∧ i = .int .i64 k ∧ s5 = .slice (some ⟨gl, 0, none⟩) (n - k) cl ∧ wr.ownsRow w.heap.size 3 1 (.slice (some ⟨gl, 0, none⟩) (n - k) cl) (n - k) (I (ordTo n l k).2) ∧
      wr.ownsRow w.heap.size 3 1 s6 k (I (ordTo n l k).1) ∧ s6.ownBlock ≠ some gl ∧ Below w.heap.size w wr) (fun _ _ i _ => n - (intOf i).toNat)
  case atStart => exact ⟨0, cl, Nat.zero_le _, rfl, rfl, hown, World.ownsRow_nil _ _ _ _, by simp [Value.ownBlock], hb⟩
  case round =>
    obtain ⟨k, cl, hk, rfl, rfl, hl1, ho1, hne, hbel⟩ := hrel
    have hz := hbel.size
    have HNE := Lib.hid hne
    clear hown hb hne
    by_cases hlt : k < n
    · have hlen := ordTo_len2 n l k hk
      have hpk := pickK_lt (l := l) (left := (ordTo n l k).2) (i := k) (by omega)
      have HP : Hid ((ordTo n l (k + 1)).1 = (ordTo n l k).1 ++ [(ordTo n l k).2.getD (pickK l (ordTo n l k).2 k) 0]) := rfl
      have HQ : Hid ((ordTo n l (k + 1)).2 = (ordTo n l k).2.eraseIdx (pickK l (ordTo n l k).2 k)) := rfl
      have HK : Hid (pickK l (ordTo n l k).2 k = if k < l.length then ((l.getD k 0) % (((n - k : Nat)) : Int)).toNat else 0) := by unfold pickK; rw [hlen]; exact rfl
      rw [hlen] at hpk
      clear hlen
      generalize (ordTo n l k).1 = outs at *
      generalize (ordTo n l k).2 = lefts at *
      generalize pickK l lefts k = kk at *
      have hcl : wr.cell? ⟨gl, kk, none⟩ = some (.int .i64 (lefts.getD kk 0)) := by
        obtain ⟨g', c', hv, _, _, _, _, hc⟩ := own_form hl1 (by omega)
        injection hv with hv1
        injection hv1 with hv1
        injection hv1 with hv1
        subst hv1
        exact hc kk hpk
      have hgl : gl < wr.heap.size := (hl1.lt gl rfl).2
      have hll := (HR.out).1
      have HLL := Lib.hid hll
      clear hll
      by_cases hkm : k < m
      · obtain ⟨b, o, rfl, hbB, hca⟩ := HR.out.at_ hkm
        have hcx : wr.cell? ⟨b, o + k, none⟩ = some (.int .i64 (l.getD k 0)) := (hbel.cell (by show b < _; omega)).trans hca
        clear hca
        have hwx := HW.out (l.getD k 0) (getD_mem l k (by rw [HLL.out]; exact hkm))
        have hkk : l.getD k 0 % ((n - k : Nat) : Int) = (kk : Int) := by
          have := HK.out
          rw [HLL.out, if_pos hkm] at this
          have h0 := Int.emod_nonneg (l.getD k 0) (show ((n - k : Nat) : Int) ≠ 0 by omega)
          omega
        have HKK := Lib.hid hkk
        clear hkk
        generalize l.getD k 0 = x at *
        go_wp2_with fail
        refine (within_any x ((n - k : Nat) : Int) wr hwx.1 hwx.2 (by omega) (by omega)).mono ?_
        rintro e w' ⟨rfl, rfl⟩
        rw [HKK.out]
        go_wp2_with (at_builtin; refine push1 rfl _ _ rfl wr w.heap.size _ k outs (lefts.getD kk 0) rfl rfl (by exact ho1) hz (by omega) ?_)
        intro g cap w1 hown1 hgr hg3 hg4
        have hb1 : Below w.heap.size w w1 := hbel.grown hgr hz (own_not ho1)
        have hl2 := hl1.kept hgr (.inr (Ne.symm HNE.out))
        have hng : g ≠ gl := by
          rcases hg3 with hg3 | hg3
          · intro e; subst e; exact HNE.out hg3
          · omega
        have hz3 := hb1.size
        clear hgr hg3 ho1 hbel hl1 hcl hcx
        go_wp2_with fail
        refine (delete_own w.heap.size gl (n - k) cl kk lefts w1 hl2 hpk).mono ?_
        rintro e w2 ⟨rfl, hl3, hgr2⟩
        have hb2 : Below w.heap.size w w2 := hb1.grown hgr2 hz3 (fun j hj => by injection hj with hj; omega)
        have ho2 := hown1.kept hgr2 (.inr (by simpa [Value.ownBlock] using hng))
        have e1 : n - k - 1 = n - (k + 1) := by omega
        rw [e1] at hl3 ⊢
        clear hgr2 hown1 hl2 hb1
        go_wp2
        go_roundw
        case rel => exact ⟨k + 1, cl, by omega, by go_num, rfl, by rw [HQ.out]; exact hl3, by rw [HP.out]; exact ho2, by simpa [Value.ownBlock] using hng, hb2⟩
        case measure => simp [intOf]; omega
      · have hk0 : kk = 0 := by
          have := HK.out
          rw [HLL.out, if_neg hkm] at this
          exact this
        subst hk0
        have hcl0 : wr.cell? ⟨gl, 0, none⟩ = some (.int .i64 (lefts.getD 0 0)) := hcl
        generalize lefts.getD 0 0 = y at *
        go_wp2_with (at_builtin; refine push1 rfl _ _ rfl wr w.heap.size _ k outs y rfl rfl (by exact ho1) hz (by omega) ?_)
        intro g cap w1 hown1 hgr hg3 hg4
        have hb1 : Below w.heap.size w w1 := hbel.grown hgr hz (own_not ho1)
        have hl2 := hl1.kept hgr (.inr (Ne.symm HNE.out))
        have hng : g ≠ gl := by
          rcases hg3 with hg3 | hg3
          · intro e; subst e; exact HNE.out hg3
          · omega
        have hz3 := hb1.size
        clear hgr hg3 ho1 hbel hl1 hcl hcl0
        go_wp2_with fail
        refine (delete_own w.heap.size gl (n - k) cl 0 lefts w1 hl2 hpk).mono ?_
        rintro e w2 ⟨rfl, hl3, hgr2⟩
        have hb2 : Below w.heap.size w w2 := hb1.grown hgr2 hz3 (fun j hj => by injection hj with hj; omega)
        have ho2 := hown1.kept hgr2 (.inr (by simpa [Value.ownBlock] using hng))
        have e1 : n - k - 1 = n - (k + 1) := by omega
        rw [e1] at hl3 ⊢
        clear hgr2 hown1 hl2 hb1
        go_wp2
        go_roundw
        case rel => exact ⟨k + 1, cl, by omega, by go_num, rfl, by rw [HQ.out]; exact hl3, by rw [HP.out]; exact ho2, by simpa [Value.ownBlock] using hng, hb2⟩
        case measure => simp [intOf]; omega
    · obtain rfl : k = n := by omega
      go_wp2
      go_ret
      exact ⟨_, rfl, ho1, hbel⟩
end Go.Proofs.Ythcaipnlgbnfkaa

/-
  order.Check answers chk, for every int and every slice of ints; nothing that was there is written.
-/
namespace Go.Proofs.Ythcaipnlgbnfkaa
open Go.RowKit Fm
set_option linter.unusedVariables false

/-- The marks of the alternatives that stand in t. -/
def seen (t : List Int) : Array Value := #[.bool (decide ((0 : Int) ∈ t)), .bool (decide ((1 : Int) ∈ t)), .bool (decide ((2 : Int) ∈ t)), .bool (decide ((3 : Int) ∈ t)), .bool (decide ((4 : Int) ∈ t)), .bool (decide ((5 : Int) ∈ t))]

theorem seen_at (t : List Int) {i : Nat} (h : i < 6) : (seen t)[i]? = some (.bool (decide ((i : Int) ∈ t))) := by
  match i, h with
  | 0, _ => rfl
  | 1, _ => rfl
  | 2, _ => rfl
  | 3, _ => rfl
  | 4, _ => rfl
  | 5, _ => rfl
theorem seen_true {t : List Int} {i : Nat} (h : i < 6) (hi : (i : Int) ∈ t) : (seen t)[i]? = some (.bool true) := by rw [seen_at t h]; simp [hi]
theorem seen_false {t : List Int} {i : Nat} (h : i < 6) (hi : (i : Int) ∉ t) : (seen t)[i]? = some (.bool false) := by rw [seen_at t h]; simp [hi]
theorem seen_size (t : List Int) : (seen t).size = 6 := rfl
theorem seen_set (t : List Int) (i : Nat) : (seen t).setIfInBounds i (.bool true) = seen (t ++ [(i : Int)]) := by
  apply Array.ext
  · simp [seen_size]
  · intro j h1 h2
    have hj : j < 6 := by simpa [seen_size] using h1
    have e := seen_at (t ++ [(i : Int)]) hj
    have f := seen_at t hj
    rw [Array.getElem?_eq_getElem h2] at e
    injection e with e
    rw [e, Array.getElem_setIfInBounds (by rw [seen_size]; exact hj)]
    split
    · rename_i he; subst he; simp
    · rename_i hne
      have hne' : ¬ (j : Int) = (i : Int) := by omega
      rw [Array.getElem?_eq_getElem (by rw [seen_size]; exact hj)] at f
      injection f with f
      rw [f]
      simp [hne']

set_option maxHeartbeats 400000 in
set_option maxRecDepth 100000 in
theorem check_arg (n : Int) (a : Option Addr) (k c : Nat) (w : World) (hn : n < 1 ∨ 6 < n) :
    Calls Try.prog 52 #[.int .i64 n, .slice a k c] w fun e w' => e = .returned (.int .i64 1) ∧ w = w' := by
  rcases hn with hn | hn
  · go_enter Try.func52, Try.ntmps52
    go_wp2
    go_ret
    exact ⟨rfl, rfl⟩
  · have h1 : ¬ n < 1 := by omega
    go_enter Try.func52, Try.ntmps52
    go_wp2
    go_ret
    exact ⟨rfl, rfl⟩

set_option maxHeartbeats 400000 in
set_option maxRecDepth 100000 in
theorem check_len (n : Int) (a : Option Addr) (k c : Nat) (w : World) (h1 : ¬ n < 1) (h2 : ¬ 6 < n) (hk : (k : Int) ≠ n) :
    Calls Try.prog 52 #[.int .i64 n, .slice a k c] w fun e w' => e = .returned (.int .i64 3) ∧ w = w' := by
  have hb : ((k : Int) != n) = true := by simpa using hk
  clear hk
  go_enter Try.func52, Try.ntmps52
  go_wp2
  go_ret
  exact ⟨rfl, rfl⟩

set_option maxHeartbeats 400000 in
set_option maxRecDepth 100000 in
theorem check_go (a : Option Addr) (k c : Nat) (l : List Int) (w : World) (B : Nat) (hB : B ≤ w.heap.size) (h1 : 1 ≤ k) (h2 : k ≤ 6) (hr : Rd w B a k l) (r : Int) (hres : r = if isOrd k l then 0 else 3) :
    Calls Try.prog 52 #[.int .i64 k, .slice a k c] w fun e w' => e = .returned (.int .i64 r) ∧ Below w.heap.size w w' := by
  have HR := Lib.hid hres
  clear hres
  have bel : ∀ t, Below w.heap.size w (w.alloc (.cells (seen t) 91)) := fun t => (Below.refl _ _).alloc (Nat.le_refl _) _
  obtain ⟨hl, hr⟩ := hr
  obtain ⟨b, o, rfl, hb, hc⟩ := hr (by omega)
  have HL := Lib.hid hl
  have HC := Lib.hid hc
  clear hl hc hr
  go_enter Try.func52, Try.ntmps52
  go_wp2
  go_loopw [20] (fun i wr => ∃ j : Nat, j ≤ k ∧ i = .int .i64 j ∧ wr = w.alloc (.cells (seen (l.take j)) 91) ∧ isOrd k (l.take j)) (fun i _ => k - (intOf i).toNat)
  case atStart => exact ⟨0, Nat.zero_le _, rfl, rfl, by simp [isOrd]⟩
  case round =>
    obtain ⟨j, hj, rfl, rfl, ho⟩ := hrel
    have HO := Lib.hid ho
    clear ho
    by_cases hlt : j < k
    · have hcj : ∀ ob, (w.alloc ob).cell? ⟨b, o + j, none⟩ = some (.int .i64 (l.getD j 0)) := fun ob => (World.cell?_alloc_lt w ob ⟨b, o + j, none⟩ (by show b < _; omega)).trans (HC.out j hlt)
      have hs : l.take (j + 1) = l.take j ++ [l.getD j 0] := take_succ_getD l j (by rw [HL.out]; exact hlt)
      have HS := Lib.hid hs
      clear hs
      have hbw : ¬ b = w.heap.size := by omega
      generalize hx : l.getD j 0 = x at *
      have HX := Lib.hid hx
      clear hx
      by_cases hneg : x < 0
      · have hno : r = 3 := by
          rw [HR.out, if_neg (fun h => ?_)]
          have := isOrd_take (j + 1) h
          rw [HS.out, isOrd_snoc] at this
          omega
        have HN := Lib.hid hno
        clear hno
        go_wp2
        go_ret
        exact ⟨by rw [HN.out]; rfl, bel _⟩
      · by_cases hbig : (k : Int) ≤ x
        · have hno : r = 3 := by
            rw [HR.out, if_neg (fun h => ?_)]
            have := isOrd_take (j + 1) h
            rw [HS.out, isOrd_snoc] at this
            omega
          have HN := Lib.hid hno
          clear hno
          go_wp2
          go_ret
          exact ⟨by rw [HN.out]; rfl, bel _⟩
        · obtain ⟨i, rfl⟩ : ∃ i : Nat, x = i := ⟨x.toNat, by omega⟩
          have hi6 : i < 6 := by omega
          by_cases hin : (i : Int) ∈ l.take j
          · have hse : (seen (l.take j))[i]? = some (.bool true) := seen_true hi6 hin
            have hno : r = 3 := by
              rw [HR.out, if_neg (fun h => ?_)]
              have := isOrd_take (j + 1) h
              rw [HS.out, isOrd_snoc] at this
              exact this.2.2.2 hin
            have HN := Lib.hid hno
            clear hno hin
            go_wp2
            go_ret
            exact ⟨by rw [HN.out]; rfl, bel _⟩
          · have hse : (seen (l.take j))[i]? = some (.bool false) := seen_false hi6 hin
            have HI := Lib.hid hin
            clear hin
            go_wp2
            go_roundw
            case rel => exact ⟨j + 1, by omega, by go_num, by rw [HS.out, ← seen_set], by rw [HS.out, isOrd_snoc]; exact ⟨HO.out, by omega, by omega, HI.out⟩⟩
            case measure => simp [intOf]; omega
    · have hno : r = 0 := by
        rw [HR.out, if_pos]
        have := HO.out
        rwa [List.take_of_length_le (by rw [HL.out]; omega)] at this
      have HN := Lib.hid hno
      clear hno
      go_wp2
      go_ret
      exact ⟨by rw [HN.out]; rfl, bel _⟩

/-- order.Check, for every int and every slice. -/
theorem check_any (n : Int) (a : Option Addr) (k c : Nat) (l : List Int) (w : World) (B : Nat) (hB : B ≤ w.heap.size) (hr : Rd w B a k l) :
    Calls Try.prog 52 #[.int .i64 n, .slice a k c] w fun e w' => e = .returned (.int .i64 (chk n l)) ∧ Below w.heap.size w w' := by
  by_cases h : n < 1 ∨ 6 < n
  · rw [chk_arg h]
    exact (check_arg n a k c w h).mono fun e w' ⟨he, hw⟩ => ⟨he, hw ▸ Below.refl _ _⟩
  · by_cases hl : (k : Int) = n
    · subst hl
      refine (check_go a k c l w B hB (by omega) (by omega) hr _ rfl).mono fun e w' ⟨he, hw⟩ => ⟨?_, hw⟩
      rw [he]
      by_cases hb : isOrd k l
      · rw [if_pos hb, chk_ok h (by rw [hr.1]) hb]
      · rw [if_neg hb, chk_bad h (by rw [hr.1]) hb]
    · rw [chk_len h (by rw [hr.1]; exact hl)]
      exact (check_len n a k c w (by omega) (by omega) hl).mono fun e w' ⟨he, hw⟩ => ⟨he, hw ▸ Below.refl _ _⟩
end Go.Proofs.Ythcaipnlgbnfkaa

/-
  order.places: for alternatives from 0 to 5 it returns the array of their indices; nothing that was there is written.
-/
namespace Go.Proofs.Ythcaipnlgbnfkaa
open Go.RowKit Fm
set_option linter.unusedVariables false

/-- Six ints as cells. -/
def six (f : Int → Int) : Array Value := #[.int .i64 (f 0), .int .i64 (f 1), .int .i64 (f 2), .int .i64 (f 3), .int .i64 (f 4), .int .i64 (f 5)]
theorem six_at (f : Int → Int) {i : Nat} (h : i < 6) : (six f)[i]? = some (.int .i64 (f i)) := by
  match i, h with
  | 0, _ => rfl
  | 1, _ => rfl
  | 2, _ => rfl
  | 3, _ => rfl
  | 4, _ => rfl
  | 5, _ => rfl
theorem six_size (f : Int → Int) : (six f).size = 6 := rfl
theorem six_set (f : Int → Int) (i : Nat) (v : Int) : (six f).setIfInBounds i (.int .i64 v) = six (fun y => if (i : Int) = y then v else f y) := by
  apply Array.ext
  · simp [six_size]
  · intro j h1 h2
    have hj : j < 6 := by simpa [six_size] using h1
    have e := six_at (fun y => if (i : Int) = y then v else f y) hj
    have g := six_at f hj
    rw [Array.getElem?_eq_getElem h2] at e
    injection e with e
    rw [e, Array.getElem_setIfInBounds (by rw [six_size]; exact hj)]
    split
    · rename_i he; subst he; simp
    · rename_i hne
      have hne' : ¬ (i : Int) = (j : Int) := by omega
      rw [Array.getElem?_eq_getElem (by rw [six_size]; exact hj)] at g
      injection g with g
      rw [g]
      simp [hne']

set_option maxHeartbeats 400000 in
set_option maxRecDepth 100000 in
theorem places_any (a : Option Addr) (n c : Nat) (q : List Int) (w : World) (B : Nat) (hB : B ≤ w.heap.size) (hr : Rd w B a n q) (hn : n ≤ 6) (hq : ∀ x ∈ q, 0 ≤ x ∧ x < 6) :
    Calls Try.prog 104 #[.slice a n c] w fun e w' => e = .returned (.agg (six (atTo q n))) ∧ Below w.heap.size w w' := by
  obtain ⟨hl, hr⟩ := hr
  have HL := Lib.hid hl
  have HR := Lib.hid hr
  have HQ := Lib.hid hq
  clear hl hr hq
  go_enter Try.func104, Try.ntmps104
  go_wp2
  go_loopw [8] (fun i wr => ∃ j : Nat, j ≤ n ∧ i = .int .i64 j ∧ wr = (w.alloc (.cells (six fun _ => 0) 101)).alloc (.cells (six (atTo q j)) 101)) (fun i _ => n - (intOf i).toNat)
  case atStart => exact ⟨0, Nat.zero_le _, rfl, rfl⟩
  case round =>
    obtain ⟨j, hj, rfl, rfl⟩ := hrel
    by_cases hlt : j < n
    · obtain ⟨b, o, rfl, hb, hc⟩ := HR.out (by omega)
      have hcj : ∀ o1 o2, ((w.alloc o1).alloc o2).cell? ⟨b, o + j, none⟩ = some (.int .i64 (q.getD j 0)) := fun o1 o2 => by
        rw [World.cell?_alloc_lt _ _ _ (by simp; omega), World.cell?_alloc_lt _ _ _ (by show b < _; omega)]
        exact hc j hlt
      clear hc
      have hx2 := HQ.out (q.getD j 0) (getD_mem q j (by rw [HL.out]; exact hlt))
      have hs : atTo q (j + 1) = fun y => if q.getD j 0 = y then (j : Int) else atTo q j y := rfl
      have HS := Lib.hid hs
      clear hs
      generalize q.getD j 0 = x at *
      obtain ⟨i, rfl⟩ : ∃ i : Nat, x = i := ⟨x.toNat, by omega⟩
      have hse : (six (atTo q j))[i]? = some (.int .i64 (atTo q j i)) := six_at _ (by omega)
      go_wp2
      go_roundw
      case rel => exact ⟨j + 1, by omega, by go_num, by rw [HS.out, ← six_set]⟩
      case measure => simp [intOf]; omega
    · obtain rfl : j = n := by omega
      unfold six
      go_wp2
      exact bodyPost_ret (v := .agg (six (atTo q j))) (by simp [results, Try.results104, go_sem, six]) rfl ⟨rfl, ((Below.refl _ _).alloc (Nat.le_refl _) _).alloc (by simp) _⟩
end Go.Proofs.Ythcaipnlgbnfkaa

/-
  order.Far answers as farD and farE say, for every two slices of ints; nothing that was there is written.
-/
namespace Go.Proofs.Ythcaipnlgbnfkaa
open Go.RowKit Fm
set_option linter.unusedVariables false

set_option maxHeartbeats 400000 in
set_option maxRecDepth 100000 in
theorem far_p (p : List Int) (a a2 : Option Addr) (n c n2 c2 : Nat) (w : World) (B : Nat) (hB : B ≤ w.heap.size) (hp : Rd w B a n p) (r : Int) (hr : chk n p = r) (hr0 : r ≠ 0) :
    Calls Try.prog 82 #[.slice a n c, .slice a2 n2 c2] w fun e w' => e = .returned (.tuple #[.int .i64 0, .int .i64 r]) ∧ Below w.heap.size w w' := by
  have hne : (r != 0) = true := by simpa using hr0
  have HR := Lib.hid hr
  clear hr hr0
  go_enter Try.func82, Try.ntmps82
  go_wp2_with fail
  refine (check_any n a n c p w B hB hp).mono ?_
  rintro e w1 ⟨rfl, hb⟩
  rw [HR.out]
  go_wp2
  go_ret2
  exact ⟨rfl, hb⟩

set_option maxHeartbeats 400000 in
set_option maxRecDepth 100000 in
theorem far_q (p q : List Int) (a a2 : Option Addr) (n c n2 c2 : Nat) (w : World) (B : Nat) (hB : B ≤ w.heap.size) (hp : Rd w B a n p) (hq : Rd w B a2 n2 q) (h0 : chk n p = 0) (r : Int) (hr : chk n q = r) (hr0 : r ≠ 0) :
    Calls Try.prog 82 #[.slice a n c, .slice a2 n2 c2] w fun e w' => e = .returned (.tuple #[.int .i64 0, .int .i64 r]) ∧ Below w.heap.size w w' := by
  have hne : (r != 0) = true := by simpa using hr0
  have HR := Lib.hid hr
  have H0 := Lib.hid h0
  clear hr hr0 h0
  go_enter Try.func82, Try.ntmps82
  go_wp2_with fail
  refine (check_any n a n c p w B hB hp).mono ?_
  rintro e w1 ⟨rfl, hb⟩
  rw [H0.out]
  have hz := hb.size
  go_wp2_with fail
  refine (check_any n a2 n2 c2 q w1 B (by omega) (hq.below hb hB)).mono ?_
  rintro e w2 ⟨rfl, hb2⟩
  rw [HR.out]
  go_wp2
  go_ret2
  exact ⟨rfl, hb.trans (hb2.mono hz)⟩

set_option maxHeartbeats 1000000 in
set_option maxRecDepth 100000 in
theorem far_ok (p q : List Int) (a a2 : Option Addr) (n c c2 : Nat) (w : World) (B : Nat) (hB : B ≤ w.heap.size) (hp : Rd w B a n p) (hq : Rd w B a2 n q) (hnc : n ≤ c) (h0 : chk n p = 0) (h02 : chk n q = 0)
    (hp6 : ∀ x ∈ p, 0 ≤ x ∧ x < 6) (hq6 : ∀ x ∈ q, 0 ≤ x ∧ x < 6) (hn1 : 1 ≤ n) (hn6 : n ≤ 6) (d : Int) (hd : d = inv p q) :
    Calls Try.prog 82 #[.slice a n c, .slice a2 n c2] w fun e w' => e = .returned (.tuple #[.int .i64 d, .int .i64 0]) ∧ Below w.heap.size w w' := by
  have H02 := Lib.hid h02
  have H0 := Lib.hid h0
  have HP := Lib.hid hp6
  have HD := Lib.hid hd
  clear h0 h02 hp6 hd
  go_enter Try.func82, Try.ntmps82
  go_wp2_with fail
  refine (check_any n a n c p w B hB hp).mono ?_
  rintro e w1 ⟨rfl, hb1⟩
  rw [H0.out]
  have hz1 := hb1.size
  go_wp2_with fail
  refine (check_any n a2 n c2 q w1 B (by omega) (hq.below hb1 hB)).mono ?_
  rintro e w2 ⟨rfl, hb2⟩
  rw [H02.out]
  have hz2 := hb2.size
  go_wp2_with fail
  refine (places_any a2 n c2 q w2 B (by omega) ((hq.below hb1 hB).below hb2 (by omega)) hn6 hq6).mono ?_
  rintro e w3 ⟨rfl, hb3⟩
  have hz3 := hb3.size
  have hb : Below w.heap.size w w3 := (hb1.trans (hb2.mono hz1)).trans (hb3.mono (by omega))
  have hp3 := hp.below hb hB
  have HLP := Lib.hid hp.1
  have HLQ := Lib.hid hq.1
  have HP3 := Lib.hid hp3.2
  clear hb1 hb2 hb3 hq hp hp3 hq6
  unfold six
  go_wp2
  have HF : Hid (∀ i : Nat, i < 6 → (six (atTo q n))[i]? = some (.int .i64 (atTo q n i))) := fun i hi => six_at _ hi
  go_loopw [10, 33] (fun s i wr => ∃ k m : Nat, k ≤ n ∧ i = .int .i64 k ∧ s = .int .i64 (invTo (atTo q n) p k) ∧ wr = (w3.alloc (.cells (six (atTo q n)) 101)).drewN m) (fun _ i _ => n - (intOf i).toNat)
  case atStart => exact ⟨0, 0, Nat.zero_le _, rfl, rfl, rfl⟩
  case round =>
    obtain ⟨k, m, hk, rfl, rfl, rfl⟩ := hrel
    by_cases hlt : k < n
    · obtain ⟨b, o, rfl, hbB, hc⟩ := HP3.out (by omega)
      have HC := Lib.hid hc
      clear hc
      have hck : ∀ o1, (w3.alloc o1).cell? ⟨b, o + k, none⟩ = some (.int .i64 (p.getD k 0)) := fun o1 => by
        rw [World.cell?_alloc_lt _ _ _ (by show b < _; omega)]; exact HC.out k hlt
      have hx := HP.out (p.getD k 0) (getD_mem p k (by rw [HLP.out]; exact hlt))
      have HS : Hid (invTo (atTo q n) p (k + 1) = invTo (atTo q n) p k + lower (atTo q n) (p.getD k 0) (p.drop (k + 1))) := rfl
      have hle := invTo_le (atTo q n) p k
      rw [HLP.out] at hle
      have hle2 : k * n ≤ 6 * 6 := Nat.mul_le_mul (by omega) hn6
      have hIk : invTo (atTo q n) p k ≤ 36 := by omega
      clear hle hle2
      generalize p.getD k 0 = x at *
      generalize invTo (atTo q n) p k = s at *
      obtain ⟨i, rfl⟩ : ∃ i : Nat, x = i := ⟨x.toNat, by omega⟩
      have hfi := HF.out i (by omega)
      have hlen : (p.drop (k + 1)).length = n - (k + 1) := by rw [List.length_drop, HLP.out]
      have HLD := Lib.hid hlen
      clear hlen
      by_cases hcc : c = k + 1
      all_goals
        go_wp2
        go_loopw [10, 43] (fun s10 i43 wr => ∃ j m' : Nat, j ≤ n - (k + 1) ∧ i43 = .int .i64 j ∧ s10 = .int .i64 ((s : Int) + (lower (atTo q n) i ((p.drop (k + 1)).take j) : Nat)) ∧ wr = (w3.alloc (.cells (six (atTo q n)) 101)).drewN m') (fun _ i43 _ => n - (k + 1) - (intOf i43).toNat)
        case atStart => exact ⟨0, m, Nat.zero_le _, rfl, by simp [lower], rfl⟩
        case round =>
          obtain ⟨j, m', hj, rfl, rfl, rfl⟩ := hrel
          by_cases hjl : j < n - (k + 1)
          · try (exfalso; omega)
            all_goals
              have hcy : ∀ o1, (w3.alloc o1).cell? ⟨b, o + (k + 1) + j, none⟩ = some (.int .i64 ((p.drop (k + 1)).getD j 0)) := fun o1 => by
                rw [World.cell?_alloc_lt _ _ _ (by show b < _; omega), Nat.add_assoc, HC.out (k + 1 + j) (by omega)]
                simp [List.getD_eq_getElem?_getD, List.getElem?_drop]
              have hy := HP.out ((p.drop (k + 1)).getD j 0) (List.mem_of_mem_drop (getD_mem _ j (by rw [HLD.out]; exact hjl)))
              have hsn : (p.drop (k + 1)).take (j + 1) = (p.drop (k + 1)).take j ++ [(p.drop (k + 1)).getD j 0] := take_succ_getD _ j (by rw [HLD.out]; exact hjl)
              have HN : Hid (lower (atTo q n) i ((p.drop (k + 1)).take (j + 1)) = lower (atTo q n) i ((p.drop (k + 1)).take j) + if atTo q n ((p.drop (k + 1)).getD j 0) < atTo q n i then 1 else 0) := by rw [hsn, lower_snoc]; exact rfl
              have hll := lower_le (atTo q n) i ((p.drop (k + 1)).take j)
              have hl2 : ((p.drop (k + 1)).take j).length ≤ 6 := by rw [List.length_take]; omega
              have hll6 : lower (atTo q n) i ((p.drop (k + 1)).take j) ≤ 6 := by omega
              clear hsn hll hl2
              generalize (p.drop (k + 1)).getD j 0 = y at *
              generalize lower (atTo q n) i ((p.drop (k + 1)).take j) = t at *
              obtain ⟨i2, rfl⟩ : ∃ i2 : Nat, y = i2 := ⟨y.toNat, by omega⟩
              have hfj := HF.out i2 (by omega)
              by_cases hcmp : atTo q n i2 < atTo q n i
              · go_wp2
                go_quiet (fail)
                go_wp2
                go_roundw
                case rel => exact ⟨j + 1, _, by omega, by go_num, by rw [HN.out, if_pos hcmp]; go_num, rfl⟩
                case measure => simp [intOf]; omega
              · go_wp2
                go_quiet (fail)
                go_wp2
                go_roundw
                case rel => exact ⟨j + 1, _, by omega, by go_num, by rw [HN.out, if_neg (by omega)]; go_num, rfl⟩
                case measure => simp [intOf]; omega
          · have hjt : (p.drop (k + 1)).take j = p.drop (k + 1) := List.take_of_length_le (by rw [HLD.out]; omega)
            have HJ := Lib.hid hjt
            clear hjt
            go_wp2
            go_roundw
            case rel => exact ⟨k + 1, _, by omega, by go_num, by rw [HJ.out, HS.out]; go_num, rfl⟩
            case measure => simp [intOf]; omega
    · obtain rfl : k = n := by omega
      have hdd : d = invTo (atTo q k) p k := by rw [HD.out]; unfold inv; rw [HLP.out, HLQ.out]
      have HDD := Lib.hid hdd
      clear hdd
      go_wp2
      go_ret2
      exact ⟨by rw [HDD.out]; rfl, below_drewN (hb.alloc (by omega) _) _⟩

/-- What order.Far answers. -/
def farE (p q : List Int) : Int := if chk p.length p ≠ 0 then chk p.length p else chk p.length q
def farD (p q : List Int) : Int := if farE p q = 0 then inv p q else 0

theorem far_any (p q : List Int) (a a2 : Option Addr) (n c n2 c2 : Nat) (w : World) (B : Nat) (hB : B ≤ w.heap.size) (hp : Rd w B a n p) (hq : Rd w B a2 n2 q) (hnc : n ≤ c) :
    Calls Try.prog 82 #[.slice a n c, .slice a2 n2 c2] w fun e w' => e = .returned (.tuple #[.int .i64 (farD p q), .int .i64 (farE p q)]) ∧ Below w.heap.size w w' := by
  have hlp := hp.1
  have hlq := hq.1
  by_cases h0 : chk n p = 0
  · by_cases h1 : chk n q = 0
    · obtain ⟨hr, hl, ho⟩ := chk_zero h1
      obtain ⟨_, _, ho2⟩ := chk_zero h0
      have hn : n2 = n := by omega
      subst hn
      have e1 : farE p q = 0 := by unfold farE; rw [hlp, if_neg (by simpa using h0), h1]
      have e2 : farD p q = inv p q := by unfold farD; rw [if_pos e1]
      rw [e1, e2]
      exact far_ok p q a a2 n2 c c2 w B hB hp hq hnc h0 h1 (fun x hx => ⟨(ho2.1 x hx).1, by have := (ho2.1 x hx).2; omega⟩) (fun x hx => ⟨(ho.1 x hx).1, by have := (ho.1 x hx).2; omega⟩) (by omega) (by omega) _ rfl
    · have e1 : farE p q = chk n q := by unfold farE; rw [hlp, if_neg (by simpa using h0)]
      have e2 : farD p q = 0 := by unfold farD; rw [if_neg (by rw [e1]; exact h1)]
      rw [e1, e2]
      exact far_q p q a a2 n c n2 c2 w B hB hp hq h0 _ rfl h1
  · have e1 : farE p q = chk n p := by unfold farE; rw [hlp, if_pos h0]
    have e2 : farD p q = 0 := by unfold farD; rw [if_neg (by rw [e1]; exact h0)]
    rw [e1, e2]
    exact far_p p a a2 n c n2 c2 w B hB hp _ rfl h0

/-- order.Far at two orders. -/
theorem far_perm {n : Nat} {p q : List Int} (hp : p.Perm (sides n)) (hq : q.Perm (sides n)) (h1 : 1 ≤ n) (h6 : n ≤ 6) (a a2 : Option Addr) (c c2 : Nat) (w : World) (B : Nat) (hB : B ≤ w.heap.size)
    (rp : Rd w B a n p) (rq : Rd w B a2 n q) (hnc : n ≤ c) :
    Calls Try.prog 82 #[.slice a n c, .slice a2 n c2] w fun e w' => e = .returned (.tuple #[.int .i64 (inv p q), .int .i64 0]) ∧ Below w.heap.size w w' := by
  have lp := hp.length_eq
  have lq := hq.length_eq
  rw [sides_len] at lp lq
  have c1 : chk n p = 0 := chk_perm hp h1 h6
  have c2' : chk n q = 0 := chk_perm hq h1 h6
  have e1 : farE p q = 0 := by unfold farE; rw [lp, if_neg (by simpa using c1), c2']
  have e2 : farD p q = inv p q := by unfold farD; rw [if_pos e1]
  have h := far_any p q a a2 n c n c2 w B hB rp rq hnc
  rw [e1, e2] at h
  exact h
end Go.Proofs.Ythcaipnlgbnfkaa

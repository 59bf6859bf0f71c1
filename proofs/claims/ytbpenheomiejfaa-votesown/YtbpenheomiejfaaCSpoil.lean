/-
  plumekeep.spoil at a row of ints of the caller's own writes that row alone; plumekeep.copied copies; plumekeep.sameRows at two slices of slices that read alike is true.
-/
import Derived.Test.YtbpenheomiejfaaPushS
import Derived.Test.YtbpenheomiejfaaOuts
import Derived.Test.YtbpenheomiejfaaCClone
import Derived.Test.YtbpenheomiejfaaCEqual
namespace Go.Proofs.Ytbpenheomiejfaa
open Go.RowKit Fm
set_option linter.unusedVariables false

theorem own_cap {w : World} {B g n cap : Nat} {e : TypeId} {xs : List Value} (h : w.ownsRow B e 1 (.slice (some ⟨g, 0, none⟩) n cap) n xs) : n ≤ cap ∧ cap ≤ maxLen ∧ ∀ k, k < cap → ∃ u, w.cell? ⟨g, k, none⟩ = some u := by
  rcases h.2 with ⟨h, _⟩ | ⟨g', cap', cur, hv, _, hg, hnc, hm, hsz, _⟩
  · cases h
  · injection hv with hv1 _ hv3
    injection hv1 with hv1
    injection hv1 with hv1
    subst hv1; subst hv3
    refine ⟨hnc, hm, fun k hk => ?_⟩
    rw [cell_of_row w g k cur e (0, 0) hg]
    exact ⟨cur[k]'(by omega), by rw [Array.getElem?_eq_getElem]⟩

/-- What spoil leaves. -/
def SpoilOut (B : Nat) (v : Value) (n : Nat) (w : World) (e : Ending) (w' : World) : Prop := (∃ u, e = .returned u) ∧ (∃ xs, w'.ownsRow B 3 1 v n xs) ∧ w.grownBy w' v.ownBlock

set_option maxHeartbeats 1000000 in
set_option maxRecDepth 100000 in
theorem spoil_any (B : Nat) (v : Value) (n : Nat) (xs : List Value) (z : Int) (w : World) (h : w.ownsRow B 3 1 v n xs) :
    Calls Try.prog 37 #[v, .int .i64 z] w (SpoilOut B v n w) := by
  have HO := Lib.hid h
  rcases h.2 with ⟨rfl, hn⟩ | ⟨g, cap, cur, rfl, hB, _⟩
  · have hmx : (0 : Int) ≤ 0 := by omega
    clear h
    go_enter Try.func37, Try.ntmps37
    go_wp2_with fail
    go_loopw [11] (fun iv wr => iv = .int .i64 0 ∧ wr = w) (fun _ _ => 0)
    case atStart => exact ⟨rfl, rfl⟩
    case round =>
      obtain ⟨rfl, rfl⟩ := hrel
      go_wp2
      go_end0
      exact ⟨⟨_, rfl⟩, ⟨xs, HO.out⟩, grown_refl _ _⟩
  · obtain ⟨hnc, hcm, _⟩ := own_cap h
    unfold maxLen at hcm
    have hc0 : (0 : Int) ≤ (cap : Int) := by omega
    clear h
    go_enter Try.func37, Try.ntmps37
    go_wp2_with fail
    go_loopw [11] (fun iv wr => ∃ k : Nat, k ≤ cap ∧ iv = .int .i64 k ∧ (∃ ys, wr.ownsRow B 3 1 (.slice (some ⟨g, 0, none⟩) n cap) n ys) ∧ w.grownBy wr (some g)) (fun iv _ => cap - (intOf iv).toNat)
    case atStart => exact ⟨0, Nat.zero_le _, rfl, ⟨xs, HO.out⟩, grown_refl _ _⟩
    case round =>
      obtain ⟨k, hk, rfl, ⟨ys, own⟩, hg⟩ := hrel
      by_cases hkc : k < cap
      · obtain ⟨u, hu⟩ := (own_cap own).2.2 k hkc
        have fk := own.frozenAt k
        obtain ⟨s1, g1⟩ := own.stored k (.int .i64 z)
        have hg1 := grown_trans hg g1
        clear own hg g1
        go_wp2
        go_roundw
        case rel => exact ⟨k + 1, by omega, by go_num, ⟨_, s1⟩, hg1⟩
        case measure => simp [intOf]; omega
      · obtain rfl : k = cap := by omega
        go_wp2
        go_end0
        exact ⟨⟨_, rfl⟩, ⟨ys, own⟩, hg⟩

/-- Each of vs is a row of ints of the caller's own. -/
def Spo (w : World) (B : Nat) (vs : List Value) : Prop := ∀ u ∈ vs, ∃ n xs, w.ownsRow B 3 1 u n xs
theorem Spo.of_elems {w : World} {B : Nat} {vs : List Value} {L : List (List Int)} (h : Elems w B 3 vs L) : Spo w B vs := fun u hu => by
  obtain ⟨j, hj, rfl⟩ := List.getElem_of_mem hu
  exact ⟨_, _, h.2 j _ (List.getElem?_eq_getElem hj)⟩
theorem own_same {w w' : World} {B : Nat} {e : TypeId} {u u0 : Value} {n n0 : Nat} {xs ys ys' : List Value} (h : w.ownsRow B e 1 u n xs) (h0 : w.ownsRow B e 1 u0 n0 ys) (h0' : w'.ownsRow B e 1 u0 n0 ys') {g : Nat} (hg : u.ownBlock = some g) (hg0 : u0.ownBlock = some g) : ∃ xs', w'.ownsRow B e 1 u n xs' := by
  rcases h.2 with ⟨rfl, _⟩ | ⟨g1, cap, cur, rfl, hb, hh, hnc, hm, hsz, _⟩
  · simp [Value.ownBlock] at hg
  · rcases h0.2 with ⟨rfl, _⟩ | ⟨g2, cap2, cur2, rfl, _, hh2, _, _, hsz2, _⟩
    · simp [Value.ownBlock] at hg0
    · rcases h0'.2 with ⟨h, _⟩ | ⟨g3, cap3, cur3, hv, _, hh3, _, _, hsz3, _⟩
      · cases h
      · injection hv with hv1 _ hv3
        injection hv1 with hv1
        injection hv1 with hv1
        subst hv1; subst hv3
        simp [Value.ownBlock] at hg hg0
        subst hg
        subst hg0
        rw [hh] at hh2
        injection hh2 with hh2
        injection hh2 with hh2
        subst hh2
        refine ⟨cur3.toList.take (n * 1), ?_, .inr ⟨_, cap, cur3, rfl, hb, hh3, hnc, hm, by omega, rfl⟩⟩
        rw [List.length_take, Array.length_toList]
        omega
theorem Spo.spoiled {w w' : World} {B : Nat} {vs : List Value} {u0 : Value} {n0 : Nat} {ys : List Value} (h : Spo w B vs) (h0 : w.ownsRow B 3 1 u0 n0 ys) (h0' : ∃ xs, w'.ownsRow B 3 1 u0 n0 xs) (hg : w.grownBy w' u0.ownBlock) : Spo w' B vs := fun u hu => by
  obtain ⟨n, xs, ho⟩ := h u hu
  obtain ⟨ys', ho'⟩ := h0'
  cases hb : u.ownBlock with
  | none => exact ⟨n, xs, ho.kept hg (.inl hb)⟩
  | some g =>
    cases hb0 : u0.ownBlock with
    | none => exact ⟨n, xs, ho.kept hg (.inr (by rw [hb, hb0]; simp))⟩
    | some g0 =>
      by_cases e : g = g0
      · subst e
        obtain ⟨xs', hx⟩ := own_same ho h0 ho' hb hb0
        exact ⟨n, xs', hx⟩
      · exact ⟨n, xs, ho.kept hg (.inr (by rw [hb, hb0]; simpa using e))⟩

/-- What copied leaves. -/
def CopyOut (L : List (List Int)) (w : World) (e : Ending) (w' : World) : Prop :=
  ∃ v vs, e = .returned v ∧ w'.ownsRow w.heap.size 23 1 v L.length vs ∧ Elems w' w.heap.size 3 vs L ∧ Below w.heap.size w w'

set_option maxHeartbeats 1000000 in
set_option maxRecDepth 100000 in
theorem copied_any (a : Option Addr) (m c : Nat) (L : List (List Int)) (w : World) (hr : RdR w w.heap.size a m L) (hm : m * 24 ≤ 140737488355328) (h8 : ∀ l ∈ L, l.length * 8 ≤ 140737488355328) :
    Calls Try.prog 36 #[.slice a m c] w (CopyOut L w) := by
  have HR := Lib.hid hr
  have HL := Lib.hid hr.1
  have H8 := Lib.hid h8
  clear hr h8
  go_enter Try.func36, Try.ntmps36
  go_wp2_with fail
  go_loopw [3, 8] (fun s5 s14 wr => ∃ (k : Nat) (vs : List Value), k ≤ m ∧ s14 = .int .i64 k ∧ wr.ownsRow w.heap.size 23 1 s5 k vs ∧ Elems wr w.heap.size 3 vs (L.take k) ∧ Below w.heap.size w wr) (fun _ s14 _ => m - (intOf s14).toNat)
  case atStart => exact ⟨0, [], Nat.zero_le _, rfl, World.ownsRow_nil _ _ _ _, Elems.nil_, Below.refl _ _⟩
  case round =>
    obtain ⟨k, vs, hk, rfl, hv, hel, hbel⟩ := hrel
    have hz := hbel.size
    by_cases hlt : k < m
    · obtain ⟨b, o, a', c', rfl, hb, hcell, _, _, _, hrd⟩ := HR.out.at_ hlt
      have hck : wr.cell? ⟨b, o + k, none⟩ = some (.slice a' (L.getD k []).length c') := (hbel.cell hb).trans hcell
      have hkl : k < L.length := by rw [HL.out]; omega
      have hmem : L.getD k [] ∈ L := by rw [List.getD_eq_getElem?_getD, List.getElem?_eq_getElem hkl]; exact List.getElem_mem hkl
      have hl8 := H8.out _ hmem
      have RD := Lib.hid (rd_ext hrd hbel)
      have hsn : L.take (k + 1) = L.take k ++ [L.getD k []] := by
        rw [List.take_succ_eq_append_getElem hkl, List.getD_eq_getElem?_getD, List.getElem?_eq_getElem hkl]; rfl
      have HSN := Lib.hid hsn
      clear hsn hcell hrd hmem hkl
      generalize L.getD k [] = l at *
      generalize L.take k = T at *
      go_wp2_with fail
      refine (clone_any l a' l.length c' wr wr.heap.size RD.out hl8).mono ?_
      rintro e w1 ⟨v1, rfl, o1, hb1⟩
      obtain ⟨a1, c1, rfl, _, _⟩ := own_slice o1
      have z1 := hb1.size
      have hv1 := own_below hv hb1 (Nat.le_refl _)
      have hel1 := hel.below hb1 (Nat.le_refl _)
      have hbl1 := hbel.trans (hb1.mono hz)
      clear hv hel hbel hb1 hck
      go_wp2_with (at_builtin; go_must (refine pushSB rfl _ _ rfl w1 w.heap.size _ k vs a1 l.length c1 rfl rfl (by exact hv1) (by omega) (by omega) ?_))
      intro g cap w2 hv2 hg2 hg3 hg4
      have hkind : ∀ y, Value.ownBlock _ = some y → y < w.heap.size ∨ ∃ c t, w1.heap[y]? = some (.cells c t (0, 0)) ∧ t ≠ 3 := fun y hy => by
        obtain ⟨c, hc⟩ := own_kind hv1 hy
        exact .inr ⟨c, _, hc, by decide⟩
      have hel2 := hel1.kept hg2 hkind
      have o2 := o1.kept hg2 (own_far hv1 o1 (by decide))
      have hbl2 := hbl1.grown hg2 (by omega) (fun y hy => (hv1.lt _ hy).1)
      have hel3 := hel2.snoc (l := l) (own_mono o2 hz)
      clear hkind hel1 hv1 hbl1 o1 o2 hel2 hg2 hg3
      go_wp2
      go_roundw
      case rel => exact ⟨k + 1, _, by omega, by go_num, hv2, by rw [HSN.out]; exact hel3, hbl2⟩
      case measure => simp [intOf]; omega
    · obtain rfl : k = m := by omega
      have e1 : L.take k = L := List.take_of_length_le (by rw [HL.out]; exact Nat.le_refl _)
      rw [e1] at hel
      rw [← HL.out] at hv
      clear e1
      go_wp2
      go_ret
      exact ⟨_, vs, rfl, hv, hel, hbel⟩

set_option maxHeartbeats 1000000 in
set_option maxRecDepth 100000 in
/-- slices.EqualFunc by slices.Equal, of two slices of slices that read as one list, wherever they lie. -/
theorem equalFunc_big (L : List (List Int)) (a1 a2 : Option Addr) (n c1 c2 : Nat) (w : World) (B : Nat) (hL : n ≤ 17592186044416) (hLL : ∀ l ∈ L, l.length ≤ 17592186044416) (r1 : RdR w B a1 n L) (r2 : RdR w B a2 n L) :
    Calls Try.prog 70 #[.slice a1 n c1, .slice a2 n c2, .func (.func 15) #[] #[]] w fun e w' => e = .returned (.bool true) ∧ ∃ k, w' = w.drewN k := by
  have R1 := Lib.hid r1
  have R2 := Lib.hid r2
  have HN := Lib.hid r1.1
  have HLL := Lib.hid hLL
  clear r1 r2 hLL
  go_enter Try.func70, Try.ntmps70
  go_wp2_with fail
  go_loopw [17] (fun i wr => ∃ j m : Nat, j ≤ n ∧ i = .int .i64 j ∧ wr = w.drewN m) (fun i _ => n - (intOf i).toNat)
  case atStart => exact ⟨0, 0, Nat.zero_le _, rfl, rfl⟩
  case round =>
    obtain ⟨j, m, hj, rfl, rfl⟩ := hrel
    by_cases hlt : j < n
    · obtain ⟨b1, o1, p1, q1, rfl, _, d1, _, _, _, e1⟩ := R1.out.at_ hlt
      obtain ⟨b2, o2, p2, q2, rfl, _, d2, _, _, _, e2⟩ := R2.out.at_ hlt
      have hjl : j < L.length := by rw [HN.out]; exact hlt
      have hlj := HLL.out (L.getD j []) (by rw [List.getD_eq_getElem?_getD, List.getElem?_eq_getElem hjl]; exact List.getElem_mem hjl)
      have S1 := Lib.hid e1
      have S2 := Lib.hid e2
      clear e1 e2
      generalize L.getD j [] = l at *
      go_wp2_with fail
      refine (equal_any l l p1 p2 l.length q1 l.length q2 _ B (S1.out.drewN m) (S2.out.drewN m) (by omega) (by omega)).mono ?_
      rintro e w1 ⟨rfl, k, rfl⟩
      go_wp2
      go_roundw
      case rel => exact ⟨j + 1, m + k, by omega, by go_num, by simp⟩
      case measure => simp [intOf]; omega
    · go_wp2
      go_ret
      exact ⟨rfl, m, rfl⟩

set_option maxHeartbeats 400000 in
set_option maxRecDepth 100000 in
theorem sameRows_any (L : List (List Int)) (a1 a2 : Option Addr) (n c1 c2 : Nat) (w : World) (hL : n ≤ 17592186044416) (hLL : ∀ l ∈ L, l.length ≤ 17592186044416) (r1 : RdR w w.heap.size a1 n L) (r2 : RdR w w.heap.size a2 n L) :
    Calls Try.prog 40 #[.slice a1 n c1, .slice a2 n c2] w fun e w' => e = .returned (.bool true) ∧ Below w.heap.size w w' := by
  have H := Lib.hid (equalFunc_big L a1 a2 n c1 c2 w w.heap.size hL hLL r1 r2)
  clear r1 r2 hLL
  go_enter Try.func40, Try.ntmps40
  go_wp2_with fail
  refine H.out.mono ?_
  rintro e w1 ⟨rfl, k, rfl⟩
  have hb := below_drewN (Below.refl w.heap.size w) k
  go_wp2
  go_ret
  exact ⟨rfl, hb⟩
end Go.Proofs.Ytbpenheomiejfaa

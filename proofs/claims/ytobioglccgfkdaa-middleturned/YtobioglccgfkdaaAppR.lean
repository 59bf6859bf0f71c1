/-
  append of a slice of slices, nil let in, to a row of slices of the call's own; slices.Clone at slices of slices.
-/
import Derived.Test.YtobioglccgfkdaaPushS
import Derived.Test.YtobioglccgfkdaaOuts
import Derived.Maps.AppendAt
import Derived.WalkKit
import Derived.KernelRfl
import Derived.Laws.NewBlocks
namespace Go.Proofs.Ytobioglccgfkdaa
open Go.RowKit Fm
set_option linter.unusedVariables false

/-- The values vs are slices that read in w as the rows of L; what they read lies below block B. -/
def Vals (w : World) (B : Nat) (vs : List Value) (L : List (List Int)) : Prop :=
  vs.length = L.length ∧ ∀ j, j < L.length → ∃ a' c', vs[j]? = some (.slice a' (L.getD j []).length c') ∧ (L.getD j []).length ≤ c' ∧ (a' = none → c' = 0) ∧ c' ≤ maxLen ∧ Rd w B a' (L.getD j []).length (L.getD j [])
theorem Vals.map_ {w w1 : World} {B B1 : Nat} {vs : List Value} {L : List (List Int)} (h : Vals w B vs L) (hf : ∀ a n l, Rd w B a n l → Rd w1 B1 a n l) : Vals w1 B1 vs L :=
  ⟨h.1, fun j hj => by
    obtain ⟨a', c', h1, h2, h3, h4, h5⟩ := h.2 j hj
    exact ⟨a', c', h1, h2, h3, h4, hf _ _ _ h5⟩⟩
theorem Vals.below {w w1 : World} {B B' : Nat} {vs : List Value} {L : List (List Int)} (h : Vals w B vs L) (hb : Below B' w w1) (hB : B ≤ B') : Vals w1 B vs L := h.map_ fun _ _ _ r => r.below hb hB
theorem Vals.more {w : World} {B B' : Nat} {vs : List Value} {L : List (List Int)} (h : Vals w B vs L) (hB : B ≤ B') : Vals w B' vs L := h.map_ fun _ _ _ r => r.more hB
theorem Vals.grown {w w1 : World} {B : Nat} {vs : List Value} {L : List (List Int)} (h : Vals w B vs L) {row : Option Nat} (hg : w.grownBy w1 row) (hB : B ≤ w.heap.size) (hr : ∀ g, row = some g → B ≤ g) : Vals w1 B vs L := h.map_ fun _ _ _ r => r.grown hg hB hr
theorem Vals.append {w : World} {B : Nat} {vs us : List Value} {L M : List (List Int)} (h : Vals w B vs L) (k : Vals w B us M) : Vals w B (vs ++ us) (L ++ M) := by
  refine ⟨by simp [h.1, k.1], fun j hj => ?_⟩
  by_cases hjl : j < L.length
  · have e1 : (L ++ M).getD j [] = L.getD j [] := by rw [List.getD_eq_getElem?_getD, List.getD_eq_getElem?_getD, List.getElem?_append_left hjl]
    rw [e1, List.getElem?_append_left (by rw [h.1]; exact hjl)]
    exact h.2 j hjl
  · have e1 : (L ++ M).getD j [] = M.getD (j - L.length) [] := by rw [List.getD_eq_getElem?_getD, List.getD_eq_getElem?_getD, List.getElem?_append_right (by omega)]
    rw [e1, List.getElem?_append_right (by rw [h.1]; omega), h.1]
    exact k.2 (j - L.length) (by rw [List.length_append] at hj; omega)
theorem Vals.of_rdr {w : World} {B : Nat} {a : Option Addr} {n : Nat} {L : List (List Int)} (h : RdR w B a n L) : ∃ vs, Vals w B vs L ∧ (0 < n → ∃ b o, a = some ⟨b, o, none⟩ ∧ b < B ∧ ∀ j u, vs[j]? = some u → w.cell? ⟨b, o + j, none⟩ = some u) := by
  rcases Nat.eq_zero_or_pos n with h0 | h0
  · have e := List.eq_nil_of_length_eq_zero (h.1.trans h0)
    subst e
    exact ⟨[], ⟨rfl, fun j hj => absurd hj (by simp)⟩, fun h => absurd h (by omega)⟩
  · obtain ⟨b, o, e, hb, hc⟩ := h.2 h0
    refine ⟨(List.range n).map fun j => (w.cell? ⟨b, o + j, none⟩).getD undef, ⟨by simp [h.1], fun j hj => ?_⟩, fun _ => ⟨b, o, e, hb, fun j u hu => ?_⟩⟩
    · rw [h.1] at hj
      obtain ⟨a', c', h1, h2⟩ := hc j hj
      exact ⟨a', c', by simp [hj, h1], h2⟩
    · have hj : j < n := by
        rcases Nat.lt_or_ge j n with h | h
        · exact h
        · rw [List.getElem?_eq_none (by simpa using h)] at hu; cases hu
      obtain ⟨a', c', h1, _⟩ := hc j hj
      simp [hj, h1] at hu
      rw [h1, ← hu, List.getD_eq_getElem?_getD]
theorem Vals.rdr {w : World} {B n c : Nat} {e : TypeId} {a : Option Addr} {vs : List Value} {L : List (List Int)} (h : w.ownsRow B e 1 (.slice a n c) n vs) (hn : L.length = n) (hv : Vals w w.heap.size vs L) : RdR w w.heap.size a n L := by
  refine ⟨hn, fun h0 => ?_⟩
  obtain ⟨g, cap, hs, _, hlt⟩ := h.form h0
  injection hs with hs _ hs3
  subst hs; subst hs3
  refine ⟨g, 0, rfl, hlt, fun j hj => ?_⟩
  obtain ⟨a', c', h1, h2⟩ := hv.2 j (by omega)
  exact ⟨a', c', by rw [Nat.zero_add, h.cellAt j (by omega)]; exact h1, h2⟩
theorem Vals.one {w : World} {B : Nat} {vs : List Value} {L : List (List Int)} (h : Vals w B vs L) : ∀ u ∈ vs, u.oneCell' = true := fun u hu => by
  obtain ⟨j, hj, rfl⟩ := List.getElem_of_mem hu
  obtain ⟨a', c', h1, _⟩ := h.2 j (by rw [← h.1]; exact hj)
  rw [List.getElem?_eq_getElem hj] at h1
  injection h1 with h1
  rw [h1]
  rfl

section
variable (w : World) (base : Nat) (v : Value) (n : Nat) (vs : List Value) (hown : w.ownsRow base 23 1 v n vs) (A : Option Addr) (m c : Nat) (L : List (List Int)) (B : Nat) (hA : A = none → c = 0) (hr : RdR w B A m L) (hbase : base ≤ w.heap.size) (hn : n ≤ 1000000) (hm : m ≤ 1000000)
include hown hA hr hbase hn hm
set_option maxRecDepth 100000 in
theorem run_appR (ty : TypeId) : ∃ us v' w', Vals w B us L ∧ (Builtin.append_ #[22, 22] ty #[v, .slice A m c]).run Try.prog w = .ok v' w' ∧ w'.ownsRow base 23 1 v' (n + m) (vs ++ us) ∧ w.grownBy w' v.ownBlock ∧ (v'.ownBlock = v.ownBlock ∨ v'.ownBlock = some w.heap.size) := by
  obtain ⟨i0, hi, hz0, hz1, hz2⟩ := info_parts info_ints
  obtain ⟨us, hus, huc⟩ := Vals.of_rdr hr
  cases A with
  | none =>
    obtain rfl := hA rfl
    have hm0 : m = 0 := by
      rcases Nat.eq_zero_or_pos m with h | h
      · exact h
      · obtain ⟨b, o, e, _⟩ := hr.2 h
        cases e
    subst hm0
    have hl0 := List.eq_nil_of_length_eq_zero hr.1
    subst hl0
    have hu0 := List.eq_nil_of_length_eq_zero hus.1
    subst hu0
    refine ⟨[], v, w, hus, run_append_owned_none (P := Try.prog) (w := w) base 22 ty 23 i0 1 Try.underlying22 hi v n vs hown, ?_, grown_refl w _, .inl rfl⟩
    rw [List.append_nil]
    exact hown
  | some ad =>
  have hul : us.length = m := hus.1.trans hr.1
  have hnews : ∀ j u, us[j]? = some u → w.cell? (ad.add j) = some u := by
    intro j u hu
    have hj : j < us.length := by
      rcases Nat.lt_or_ge j us.length with h | h
      · exact h
      · rw [List.getElem?_eq_none h] at hu; cases hu
    obtain ⟨b, o, e, _, hc⟩ := huc (by omega)
    injection e with e
    subst e
    have e1 : (⟨b, o, none⟩ : Addr).add j = ⟨b, o + j, none⟩ := by unfold Addr.add; split <;> simp_all
    rw [e1]
    exact hc j u hu
  obtain ⟨v', w', h1, h2, h3, _, h5⟩ := run_append_own_at (P := Try.prog) w base 22 ty 23 i0 (.slice none 0 0) 1 24 Try.underlying22 hi hz0 hz1 hz2 rfl (by decide) v n vs hown ad m c us (by rw [hul, Nat.mul_one]) hnews
    (Vals.one hus) (by unfold maxLen; omega) (by omega) hbase
  exact ⟨us, v', w', hus, h1, h2, h3, h5⟩
/-- append(v, s...), v a row of slices of the call's own, in a plain region. -/
theorem wpAppR {ops : Array Oper} {rest : List Oper} {o : Oper} {a : Act} {Q : Exit → Act → World → Prop} (hgd : o.guard = none) (s x : Operand)
    (ho : o.op = .call { callee := .builtin .append, args := #[s, x], argTypes := #[22, 22] }) (hs : a.eval s = v) (hx : a.eval x = .slice A m c)
    (h : ∀ us v' w', Vals w B us L → w'.ownsRow base 23 1 v' (n + m) (vs ++ us) → w.grownBy w' v.ownBlock → (v'.ownBlock = v.ownBlock ∨ v'.ownBlock = some w.heap.size) → wpList Try.prog ops Q rest (a.put o.dst v') w') : wpList Try.prog ops Q (o :: rest) a w := by
  refine wpList_plain hgd fun K hK => ?_
  obtain ⟨us, v', w', h0, hrun, h2, h3, h4⟩ := run_appR w base v n vs hown A m c L B hA hr hbase hn hm o.type
  unfold Oper.wp execOp
  simp only [ho, resolve, invoke, builtin, Sem.run_bind, Sem.run_pure, Result.andThen_ok, List.map_toArray, List.map_cons, List.map_nil, hs, hx, hrun]
  exact hK _ _ (h us v' w' h0 h2 h3 h4)
end

set_option maxRecDepth 100000 in
theorem nil_nilR (w : World) : Sem.run Try.prog (binOp BinOp.eql 22 (.slice none 0 0) (.slice none 0 0)) w = .ok (.bool true) w := rfl
set_option maxRecDepth 100000 in
theorem some_nilR (x : Addr) (n c : Nat) (w : World) : Sem.run Try.prog (binOp BinOp.eql 22 (.slice (some x) n c) (.slice none 0 0)) w = .ok (.bool false) w := rfl
theorem own_empty (w : World) (t : TypeId) : (w.alloc (.cells #[] t)).ownsRow w.heap.size t 1 (.slice (some ⟨w.heap.size, 0, none⟩) 0 0) 0 [] :=
  ⟨rfl, .inr ⟨w.heap.size, 0, #[], rfl, Nat.le_refl _, heap_alloc_new w _, Nat.le_refl _, by unfold maxLen; omega, rfl, rfl⟩⟩

/-- What slices.Clone leaves of a slice of slices. -/
def CloneOut (n : Nat) (L : List (List Int)) (w : World) (e : Ending) (w' : World) : Prop := ∃ v vs, e = .returned v ∧ w'.ownsRow w.heap.size 23 1 v n vs ∧ Vals w' w.heap.size vs L ∧ Below w.heap.size w w'

set_option maxHeartbeats 1000000 in
set_option maxRecDepth 100000 in
theorem cloneR_any (a : Option Addr) (n c : Nat) (L : List (List Int)) (w : World) (hr : RdR w w.heap.size a n L) (hz : a = none → c = 0) (hn : n ≤ 1000) :
    Calls Try.prog 26 #[.slice a n c] w (CloneOut n L w) := by
  cases a with
  | none =>
    obtain rfl := hz rfl
    have hn0 : n = 0 := by
      rcases Nat.eq_zero_or_pos n with h | h
      · exact h
      · obtain ⟨b, o, e, _⟩ := hr.2 h
        cases e
    subst hn0
    have hl0 := List.eq_nil_of_length_eq_zero hr.1
    subst hl0
    have hq := nil_nilR w
    go_enter Try.func26, Try.ntmps26
    go_wp2
    go_ret
    exact ⟨_, [], rfl, World.ownsRow_nil _ _ _ _, ⟨rfl, fun j hj => absurd hj (by simp)⟩, Below.refl _ w⟩
  | some ad =>
    have hba : Below w.heap.size w (w.alloc (.cells #[] 23)) := (Below.refl _ w).alloc (Nat.le_refl _) _
    have HR := Lib.hid (hr.below hba (Nat.le_refl _))
    have HE := Lib.hid (own_empty w 23)
    have HBA := Lib.hid hba
    have hq := some_nilR ad n c w
    clear hr hba
    go_enter Try.func26, Try.ntmps26
    go_wp2_with (at_builtin; go_must (refine wpAppR (w.alloc (.cells #[] 23)) w.heap.size _ 0 [] (by exact HE.out) (some ad) n c L w.heap.size (fun h => by cases h) HR.out (by simp) (by omega) (by omega) rfl _ _ rfl rfl rfl ?_))
    intro us v' w' hus ho hg _
    have hbe := HBA.out.grown hg HBA.out.size (own_not HE.out)
    have hvs := hus.grown hg (by simp) (own_not HE.out)
    clear hus hg
    go_wp2
    go_ret
    exact ⟨v', us, rfl, ho, hvs, hbe⟩
end Go.Proofs.Ytobioglccgfkdaa

/-
  slices.SortFunc on a row of ratios with the comparison of plumeref.SolveOf: the row sorted; nothing else that was there is written.
-/
import Derived.Test.YtilgoinbajmamaaPairs
import Derived.Test.YtilgoinbajmamaaArrRow
import Derived.Test.YtilgoinbajmamaaLowMath
import Derived.Test.YtilgoinbajmamaaShelfSf
import Derived.Shelf.SlSortCmp.WholeK
import Derived.Shelf.SlSortCmp.KitK
namespace Go.Proofs.Ytilgoinbajmamaa
open Go.Shelf Go.RowKit Go.Lib Go.Sort Fm
set_option linter.unusedVariables false

def LQ (l : List P2) (e : Nat) : P2 := l.getD e (0, 1)
theorem ownQ_cell {w : World} {B g n cap : Nat} {t : TypeId} {l : List P2} (h : w.ownsRow B t 2 (.slice (some ⟨g, 0, none⟩) n cap) n (G2 l)) : l.length = n ∧ g < w.heap.size ∧ ∀ i c, i < n → c < 2 → w.cell? ⟨g, i * 2 + c, none⟩ = (G1 (LQ l i))[c]? := by
  have h0 := h.1
  have hl : l.length = n := by rw [G2_len] at h0; omega
  refine ⟨hl, (h.lt g rfl).2, fun i c hi hc => ?_⟩
  rw [h.cellAt (i * 2 + c) (by omega), G2_at l i c (by omega) hc]
  unfold LQ
  rw [List.getD_eq_getElem?_getD, List.getD_eq_getElem?_getD, List.getElem?_eq_getElem (l := l) (i := i) (by omega)]
  rfl
theorem rowQ_of {w : World} {B g n cap : Nat} {t : TypeId} {l : List P2} (h : w.ownsRow B t 2 (.slice (some ⟨g, 0, none⟩) n cap) n (G2 l)) : HoldsK (fun e => G1 (LQ l e)) 2 w g 0 (arr n id) := by
  obtain ⟨hl, hg, hc⟩ := ownQ_cell h
  intro j hj
  rw [size_flatK, arr_size] at hj
  rw [get_flatK _ _ _ _ (by rw [arr_size]; exact hj), arr_at n _ (by omega), Nat.zero_add]
  refine ⟨?_, h.frozenAt j⟩
  have q := hc (j / 2) (j % 2) (by omega) (by omega)
  rw [show j / 2 * 2 + j % 2 = j by omega] at q
  rw [q]
  have : j % 2 < (G1 (LQ l (j / 2))).length := by unfold G1; simp; omega
  show (G1 (LQ l (j / 2)))[j % 2]? = some ((G1 (LQ l (j / 2)))[j % 2]!)
  rw [List.getElem?_eq_getElem this, getElem!_pos (G1 (LQ l (j / 2))) (j % 2) this]

/-- How ratios are compared. -/
def cfQ (l : List P2) (x y : Nat) : Int := (LQ l x).1 * (LQ l y).2 - (LQ l y).1 * (LQ l x).2
theorem cross_trans {a b c d e f : Int} (hb : 1 ≤ b) (hd : 1 ≤ d) (hf : 1 ≤ f) (h1 : a * d < c * b) (h2 : c * f < e * d) : a * f < e * b := by
  have a1 : a * d * f < c * b * f := Int.mul_lt_mul_of_pos_right h1 (by omega)
  have a2 : c * f * b < e * d * b := Int.mul_lt_mul_of_pos_right h2 (by omega)
  have e1 : c * b * f = c * f * b := by grind
  have e2 : a * d * f = d * (a * f) := by grind
  have e3 : e * d * b = d * (e * b) := by grind
  have h3 : d * (a * f) < d * (e * b) := by rw [← e2, ← e3]; omega
  exact Int.lt_of_mul_lt_mul_left h3 (by omega)
theorem cross_ntrans {a b c d e f : Int} (hb : 1 ≤ b) (hd : 1 ≤ d) (hf : 1 ≤ f) (h1 : c * b ≤ a * d) (h2 : e * d ≤ c * f) : e * b ≤ a * f := by
  have a1 : c * b * f ≤ a * d * f := Int.mul_le_mul_of_nonneg_right h1 (by omega)
  have a2 : e * d * b ≤ c * f * b := Int.mul_le_mul_of_nonneg_right h2 (by omega)
  have e1 : c * b * f = c * f * b := by grind
  have e2 : a * d * f = d * (a * f) := by grind
  have e3 : e * d * b = d * (e * b) := by grind
  have h3 : d * (e * b) ≤ d * (a * f) := by rw [← e2, ← e3]; omega
  exact mul_cancelL (by omega) h3
theorem cfQ_swo {l : List P2} (hb : ∀ e, 1 ≤ (LQ l e).2) : SWO (ltOf (cfQ l)) where
  irrefl x := by unfold ltOf cfQ; simp
  trans x y z h1 h2 := by
    unfold ltOf cfQ at *
    simp only [decide_eq_true_eq] at *
    have := cross_trans (hb x) (hb y) (hb z) (a := (LQ l x).1) (c := (LQ l y).1) (e := (LQ l z).1) (by omega) (by omega)
    omega
  ntrans x y z h1 h2 := by
    unfold ltOf cfQ at *
    simp only [decide_eq_false_iff_not] at *
    have := cross_ntrans (hb x) (hb y) (hb z) (a := (LQ l x).1) (c := (LQ l y).1) (e := (LQ l z).1) (by omega) (by omega)
    omega

set_option maxHeartbeats 1000000 in
set_option maxRecDepth 100000 in
theorem cmpQ_any (p q : P2) (W : World) (p1 : 0 ≤ p.1) (p2 : p.1 ≤ 4000) (p3 : 1 ≤ p.2) (p4 : p.2 ≤ 4000) (q1 : 0 ≤ q.1) (q2 : q.1 ≤ 4000) (q3 : 1 ≤ q.2) (q4 : q.2 ≤ 4000) :
    Calls Try.prog 28 #[.agg #[.int .i64 p.1, .int .i64 p.2], .agg #[.int .i64 q.1, .int .i64 q.2]] W fun e w' => e = .returned (.int .i64 (p.1 * q.2 - q.1 * p.2)) ∧ ∃ n os', w' = grow (W.drewN n) os' := by
  obtain ⟨a, b⟩ := p
  obtain ⟨c, d⟩ := q
  dsimp only at *
  obtain ⟨X, hX⟩ : ∃ X, a * d = X := ⟨_, rfl⟩
  obtain ⟨Y, hY⟩ : ∃ Y, c * b = Y := ⟨_, rfl⟩
  have x1 : 0 ≤ X ∧ X ≤ 16000000 := by
    rw [← hX]
    exact ⟨Int.mul_nonneg p1 (by omega), Int.le_trans (Int.mul_le_mul p2 q4 (by omega) (by omega)) (by omega)⟩
  have y1 : 0 ≤ Y ∧ Y ≤ 16000000 := by
    rw [← hY]
    exact ⟨Int.mul_nonneg q1 (by omega), Int.le_trans (Int.mul_le_mul q2 p4 (by omega) (by omega)) (by omega)⟩
  obtain ⟨x1, x2⟩ := x1
  obtain ⟨y1, y2⟩ := y1
  rw [hX, hY]
  go_enter Try.func28, Try.ntmps28
  go_wp2
  go_ret
  refine ⟨rfl, 0, #[.cells #[.int .i64 a, .int .i64 b] 24, .cells #[.int .i64 c, .int .i64 d] 24], ?_⟩
  rw [alloc_eq_grow, alloc_eq_grow, grow_grow]
  rfl

theorem arr_toList (n : Nat) : (arr n id).toList = List.range n := by simp [arr]
theorem LQ_all (l : List P2) : (List.range l.length).map (LQ l) = l := by
  apply List.ext_getElem
  · simp
  · intro i h1 h2
    rw [List.getElem_map, List.getElem_range]
    unfold LQ
    rw [List.getD_eq_getElem?_getD, List.getElem?_eq_getElem h2]
    rfl
theorem LQ_map (l : List P2) (n : Nat) (f : Nat → Nat) {i : Nat} (hi : i < n) : LQ ((List.range n).map fun i => LQ l (f i)) i = LQ l (f i) := by
  show ((List.range n).map fun i => LQ l (f i)).getD i (0, 1) = _
  rw [List.getD_eq_getElem?_getD, List.getElem?_map, List.getElem?_range hi]
  rfl

/-- What the sort leaves. -/
def SortQOut (l : List P2) (g n : Nat) (w : World) (e : Ending) (w' : World) : Prop :=
  e = .returned (.tuple #[]) ∧ ∃ l' : List P2, l'.Perm l ∧ (∀ i j, i < j → j < n → (LQ l' i).1 * (LQ l' j).2 ≤ (LQ l' j).1 * (LQ l' i).2) ∧ (∀ i c, i < n → c < 2 → w'.cell? ⟨g, i * 2 + c, none⟩ = (G1 (LQ l' i))[c]?) ∧ w.grownBy w' (some g)

set_option maxHeartbeats 400000 in
set_option maxRecDepth 100000 in
theorem sortQ_any {w : World} {B g n cap : Nat} {l : List P2} (h : w.ownsRow B 24 2 (.slice (some ⟨g, 0, none⟩) n cap) n (G2 l)) (hn : n ≤ 10000)
    (hb : ∀ e, 0 ≤ (LQ l e).1 ∧ (LQ l e).1 ≤ 4000 ∧ 1 ≤ (LQ l e).2 ∧ (LQ l e).2 ≤ 4000) :
    Calls Try.prog 27 #[.slice (some ⟨g, 0, none⟩) n cap, .func (.func 28) #[] #[]] w (SortQOut l g n w) := by
  obtain ⟨hl, hg, _⟩ := ownQ_cell h
  have R := rowQ_of h
  have C : CmpLays Try.prog 28 #[] (fun e => G1 (LQ l e)) 2 (cfQ l) g 0 (arr n id).size w := fun m os dk _ x y => by
    obtain ⟨a1, a2, a3, a4⟩ := hb x
    obtain ⟨b1, b2, b3, b4⟩ := hb y
    exact cmpQ_any (LQ l x) (LQ l y) _ a1 a2 a3 a4 b1 b2 b3 b4
  have K := AnyQ.slices_SortFunc Try.sortF0 2 Try.isAgg24 Try.sizeOf24 (fun e => G1 (LQ l e)) (fun _ => rfl) (fun x v hv => by unfold G1 at hv; simp at hv; rcases hv with rfl | rfl <;> rfl) (cfQ l) (cfQ_swo (fun e => (hb e).2.2.1)) 28 #[] g 0 cap (arr n id) w (fun _ _ => rfl) C R hg (by rw [arr_size]; omega)
  rw [arr_size] at K
  refine Calls.mono (show Calls Try.prog 27 _ w _ from K) ?_
  rintro e w' ⟨rfl, d', m, os, ⟨p1, _, p3⟩, hs, rfl⟩
  have hdn : d'.size = n := by rw [p1, arr_size]
  refine ⟨rfl, (List.range n).map fun i => LQ l d'[i]!, ?_, fun i j hij hj => ?_, fun i c hi hc => ?_, ?_⟩
  · have e1 : d'.toList.Perm (List.range n) := by
      have q : (d'.extract 0 n).toList.Perm ((arr n id).extract 0 n).toList := p3
      have x1 : d'.extract 0 n = d' := by rw [← hdn]; simp
      have x2 : (arr n id).extract 0 n = arr n id := by have := arr_size n id; rw [← this]; simp [arr_size]
      rw [x1, x2, arr_toList] at q
      exact q
    have e2 : ((List.range n).map fun i => LQ l d'[i]!) = d'.toList.map (LQ l) := by
      apply List.ext_getElem
      · simp [hdn]
      · intro i h1 h2
        simp only [List.length_map, List.length_range] at h1
        rw [List.getElem_map, List.getElem_map, List.getElem_range, getElem!_pos d' i (by omega)]
        rfl
    rw [e2]
    have := e1.map (LQ l)
    rw [← hl, LQ_all] at this
    exact this
  · rw [LQ_map l n _ (by omega), LQ_map l n _ hj]
    have q := hs i j (Nat.zero_le _) hij hj
    unfold ltOf cfQ at q
    simp only [decide_eq_false_iff_not] at q
    omega
  · rw [LQ_map l n _ hi]
    have S : SWK (fun e => G1 (LQ l e)) 2 w g 0 d' (sortWorldK (fun e => G1 (LQ l e)) 2 w g 0 m d' os) := ⟨m, os, rfl⟩
    have q := (S.holds hg R (by rw [hdn, arr_size])).cell (i := i) (c := c) (by omega) hc
    rw [Nat.zero_add] at q
    rw [q.1]
    have : c < (G1 (LQ l d'[i]!)).length := hc
    rw [List.getElem?_eq_getElem this, getElem!_pos (G1 (LQ l d'[i]!)) c this]
  · unfold sortWorldK putRowK
    have g1 := putRow_grown id w m g 0 (flatK (fun e => G1 (LQ l e)) 2 d')
    have g2 := below_grow (Sort.putRow id (Sort.ahead w m) g 0 (flatK (fun e => G1 (LQ l e)) 2 d')) os
    exact ⟨g2.os.trans g1.os, g2.tape.trans g1.tape, g2.output.trans g1.output, Nat.le_trans g1.size g2.size, fun k hk hne => (g2.block k (Nat.lt_of_lt_of_le hk g1.size)).trans (g1.block k hk hne)⟩
end Go.Proofs.Ytilgoinbajmamaa

/-
  A table of two rows with a number added to each entry, and without a column: what their answers are. Numbers and lists alone, no Go text.
-/
import Derived.Test.YtilgoinbajmamaaMixP
namespace Go.Proofs.Ytilgoinbajmamaa
open Go.RowKit Fm
set_option linter.unusedVariables false

def addT (c : Int) (M : List (List Int)) : List (List Int) := M.map fun r => r.map fun x => x + c
def delT (j : Nat) (M : List (List Int)) : List (List Int) := M.map fun r => r.eraseIdx j
theorem addT_len (c : Int) (M : List (List Int)) : (addT c M).length = M.length := by simp [addT]
theorem delT_len (j : Nat) (M : List (List Int)) : (delT j M).length = M.length := by simp [delT]
theorem addT_row {c : Int} {M : List (List Int)} {x : Nat} (hx : x < M.length) : (addT c M).getD x [] = (M.getD x []).map fun y => y + c := by
  unfold addT
  rw [List.getD_eq_getElem?_getD, List.getElem?_map, List.getD_eq_getElem?_getD, List.getElem?_eq_getElem hx]
  rfl
theorem delT_row {j : Nat} {M : List (List Int)} {x : Nat} (hx : x < M.length) : (delT j M).getD x [] = (M.getD x []).eraseIdx j := by
  unfold delT
  rw [List.getD_eq_getElem?_getD, List.getElem?_map, List.getD_eq_getElem?_getD, List.getElem?_eq_getElem hx]
  rfl
theorem addT_ent {c : Int} {k : Nat} {M : List (List Int)} (p : Pay 2 k M) {x y : Nat} (hx : x < 2) (hy : y < k) : ent (addT c M) x y = ent M x y + c := by
  have hl := p.row hx
  unfold ent
  rw [addT_row (by rw [p.len]; exact hx), List.getD_eq_getElem?_getD, List.getElem?_map, List.getD_eq_getElem?_getD (l := M.getD x []), List.getElem?_eq_getElem (by omega)]
  rfl
theorem delT_ent {j k : Nat} {M : List (List Int)} (p : Pay 2 k M) {x y : Nat} (hx : x < 2) (hj : j < k) (hy : y < k - 1) : ent (delT j M) x y = ent M x (if y < j then y else y + 1) := by
  have hl := p.row hx
  unfold ent
  rw [delT_row (by rw [p.len]; exact hx), List.getD_eq_getElem?_getD, List.getElem?_eraseIdx, List.getD_eq_getElem?_getD]
  split <;> rfl
theorem addT_chk {c : Int} {k : Nat} {M : List (List Int)} (p : Pay 2 k M) : (mxchk (addT c M) = 0 ∧ Pay 2 k (addT c M)) ∨ mxchk (addT c M) = 1 := by
  have hl : (addT c M).length = 2 := by rw [addT_len]; exact p.len
  have hrow : ∀ r ∈ addT c M, r.length = k := fun r hr => by
    unfold addT at hr
    rw [List.mem_map] at hr
    obtain ⟨q, hq, rfl⟩ := hr
    rw [List.length_map]
    exact p.rows q hq
  have hh : ((addT c M).getD 0 []).length = k := hrow _ (memR (by omega))
  by_cases hb : ∀ r ∈ addT c M, ∀ x ∈ r, -1000 ≤ x ∧ x ≤ 1000
  · left
    have q : Pay 2 k (addT c M) := ⟨hl, by omega, by omega, p.k1, p.k6, hrow, hb⟩
    exact ⟨Pay.mxchk q, q⟩
  · right
    have h1 : ¬ firstPay k (addT c M) = 0 := fun h => hb (fun r hr x hx => by
      have := firstPay_zero.1 h r hr
      exact (payErr_zero.1 this).2.2 x hx)
    have h2 : ∀ N : List (List Int), (∀ r ∈ N, r.length = k) → firstPay k N = 0 ∨ firstPay k N = 1 := by
      intro N
      induction N with
      | nil => intro _; exact .inl rfl
      | cons r N ih =>
        intro hN
        have hr : payErr k r = 0 ∨ payErr k r = 1 := by
          unfold payErr
          have := hN r List.mem_cons_self
          have := p.k1
          have := p.k6
          rw [if_neg (by omega), if_neg (by omega)]
          split
          · exact .inl rfl
          · exact .inr rfl
        have := ih (fun q hq => hN q (List.mem_cons_of_mem _ hq))
        rw [firstPay]
        rcases hr with h | h
        · rw [h]; simpa using this
        · rw [h]; exact .inr rfl
    have h3 : pchk (addT c M) = 1 := by
      unfold pchk
      rw [if_neg (by omega), hh]
      rcases h2 _ hrow with h | h
      · exact absurd h h1
      · exact h
    unfold mxchk
    rw [if_pos (by rw [h3]; decide), h3]
theorem delT_chk {j k : Nat} {M : List (List Int)} (p : Pay 2 k M) (hj : j < k) : (2 ≤ k ∧ Pay 2 (k - 1) (delT j M)) ∨ mxchk (delT j M) ≠ 0 := by
  have hl : (delT j M).length = 2 := by rw [delT_len]; exact p.len
  have hrow : ∀ r ∈ delT j M, r.length = k - 1 := fun r hr => by
    unfold delT at hr
    rw [List.mem_map] at hr
    obtain ⟨q, hq, rfl⟩ := hr
    have := p.rows q hq
    rw [List.length_eraseIdx, if_pos (by omega)]
    omega
  have h6 := p.k6
  by_cases h : 2 ≤ k
  · left
    refine ⟨h, hl, by omega, by omega, by omega, by omega, hrow, fun r hr x hx => ?_⟩
    unfold delT at hr
    rw [List.mem_map] at hr
    obtain ⟨q, hq, rfl⟩ := hr
    exact p.bd q hq x (List.mem_of_mem_eraseIdx hx)
  · right
    intro h0
    obtain ⟨_, q⟩ := mxchk_ok h0
    have h1 := q.k1
    have h2 := hrow _ (memR (M := delT j M) (x := 0) (by omega))
    omega
theorem more_sol {c : Int} {k : Nat} {M : List (List Int)} {P Q V W P' Q' V' W' : Int} (p : Pay 2 k M) (s : Sol M k P Q V W) (s' : Sol (addT c M) k P' Q' V' W') : P' = P ∧ Q' = Q ∧ W' = W ∧ V' = V + c * W := by
  obtain ⟨h1, h2, h3, h4⟩ := sol_one s' (sol_more c s (fun y hy => ⟨addT_ent p (by omega) hy, addT_ent p (by omega) hy⟩))
  exact ⟨h1, h2, h4, h3⟩
theorem less_sol {j k : Nat} {M : List (List Int)} {P Q V W P' Q' V' W' : Int} (p : Pay 2 k M) (hj : j < k) (s : Sol M k P Q V W) (s' : Sol (delT j M) (k - 1) P' Q' V' W') : V * W' ≤ V' * W :=
  sol_less s s' (fun y hy => ⟨if y < j then y else y + 1, by split <;> omega, delT_ent p (by omega) hj hy, delT_ent p (by omega) hj hy⟩)
theorem addT_take {c : Int} {M : List (List Int)} {x : Nat} (hx : x < M.length) : addT c (M.take x) ++ [(M.getD x []).map fun y => y + c] = addT c (M.take (x + 1)) := by
  unfold addT
  rw [List.take_add_one, List.map_append, List.getD_eq_getElem?_getD, List.getElem?_eq_getElem hx]
  rfl
theorem delT_take {j : Nat} {M : List (List Int)} {x : Nat} (hx : x < M.length) : delT j (M.take x) ++ [(M.getD x []).eraseIdx j] = delT j (M.take (x + 1)) := by
  unfold delT
  rw [List.take_add_one, List.map_append, List.getD_eq_getElem?_getD, List.getElem?_eq_getElem hx]
  rfl
end Go.Proofs.Ytilgoinbajmamaa

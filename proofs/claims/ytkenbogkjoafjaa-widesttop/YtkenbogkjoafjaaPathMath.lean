/-
  Schulze's paths: three alternatives, who wins, and the smallest set of which each beats all others: no Go text.
-/
import Derived.Test.YtkenbogkjoafjaaWideMath
import Derived.Test.YtkenbogkjoafjaaPureA
namespace Fm
set_option linter.unusedVariables false

/-- The strength of the strongest path from x to y. -/
def pathE (n : Nat) (M : List (List Int)) (x y : Nat) : Int := if x = y then 0 else wayF n M n x y (2 ^ x) 1000
def pathM (n : Nat) (M : List (List Int)) : List (List Int) := fnM n (fun x y => pathE n M x.toNat y.toNat)
theorem pathM_len (n : Nat) (M : List (List Int)) : (pathM n M).length = n := fnM_len _ _
theorem pathM_rows {n : Nat} {M : List (List Int)} {l : List Int} (h : l ∈ pathM n M) : l.length = n := fnM_rows h
theorem pathM_ent {n : Nat} {M : List (List Int)} {x y : Nat} (hx : x < n) (hy : y < n) : ent (pathM n M) x y = pathE n M x y := fnM_ent n _ hx hy
/-- Who wins. -/
def winB (n : Nat) (M : List (List Int)) (x : Nat) : Bool := (List.range n).all fun y => decide (pathE n M y x ≤ pathE n M x y)
def winP (n : Nat) (M : List (List Int)) : List Int := ((List.range n).filter fun x => winB n M x).map fun (i : Nat) => (i : Int)

section
variable {n : Nat} {M : List (List Int)}
theorem wayF_nonneg : ∀ (f x y s : Nat) (wd : Int), 0 ≤ wd → 0 ≤ wayF n M f x y s wd := by
  intro f
  cases f with
  | zero => intro x y s wd h; rw [wayF]; split <;> omega
  | succ f => intro x y s wd h; rw [wayF]; split
              · exact h
              · exact mxTo_nonneg _ _
theorem path_nonneg (x y : Nat) : 0 ≤ pathE n M x y := by
  unfold pathE; split
  · omega
  · exact wayF_nonneg _ _ _ _ _ (by omega)
theorem path_diag (x : Nat) : pathE n M x x = 0 := by unfold pathE; rw [if_pos rfl]
theorem rch_le (T : Tab n M) {t : Int} {x y : Nat} (hxy : x ≠ y) (h : Rch n M t x y) : t ≤ 30 := by
  obtain ⟨l, hl⟩ := h
  cases l with
  | zero => exact absurd hl hxy
  | succ l =>
    obtain ⟨k, _, _, he, _⟩ := hl
    have := he.2
    have := (T.bd x k).2
    omega
theorem path_iff (T : Tab n M) {t : Int} (ht : 1 ≤ t) {x y : Nat} (hxy : x ≠ y) : t ≤ pathE n M x y ↔ Rch n M t x y := by
  unfold pathE
  rw [if_neg hxy, way_rch ht (Nat.le_refl _)]
  exact ⟨fun h => h.2, fun h => ⟨by have := rch_le T hxy h; omega, h⟩⟩
theorem path_le (T : Tab n M) (x y : Nat) : pathE n M x y ≤ 30 := by
  by_cases hxy : x = y
  · subst hxy; rw [path_diag]; omega
  · by_cases h : 1 ≤ pathE n M x y
    · exact rch_le T hxy ((path_iff T h hxy).1 (Int.le_refl _))
    · omega
/-- What is a table of strongest paths, whoever has made it. -/
theorem path_eq (T : Tab n M) {x y : Nat} (hxy : x ≠ y) {v : Int} (h0 : 0 ≤ v) (h : ∀ t, 1 ≤ t → (t ≤ v ↔ Rch n M t x y)) : v = pathE n M x y := by
  have hp := path_nonneg (n := n) (M := M) x y
  by_cases h1 : v < pathE n M x y
  · have := (h (v + 1) (by omega)).2 ((path_iff T (by omega) hxy).1 (by omega))
    omega
  · by_cases h2 : pathE n M x y < v
    · have := (path_iff T (t := pathE n M x y + 1) (by omega) hxy).2 ((h _ (by omega)).1 (by omega))
      omega
    · omega
theorem path_third (T : Tab n M) {x y z : Nat} (hxy : x ≠ y) (hyz : y ≠ z) (hxz : x ≠ z) : min (pathE n M x y) (pathE n M y z) ≤ pathE n M x z := by
  have h0 := path_nonneg (n := n) (M := M) x z
  by_cases h : 1 ≤ min (pathE n M x y) (pathE n M y z)
  · exact (path_iff T h hxz).2 (((path_iff T h hxy).1 (by omega)).trans ((path_iff T h hyz).1 (by omega)))
  · omega
theorem path_duel (T : Tab n M) {x y : Nat} (hy : y < n) (h : ent M y x < ent M x y) : ent M x y ≤ pathE n M x y := by
  have hxy : x ≠ y := fun e => by subst e; omega
  have := (T.bd y x).1
  exact (path_iff T (by omega) hxy).2 (Rch.step hy ⟨by unfold btB; exact decide_eq_true h, Int.le_refl _⟩ (Rch.refl y))
theorem path_order (T : Tab n M) {x y z : Nat} (h1 : pathE n M y x < pathE n M x y) (h2 : pathE n M z y < pathE n M y z) : pathE n M z x < pathE n M x z := by
  have hxy : x ≠ y := fun e => by subst e; omega
  have hyz : y ≠ z := fun e => by subst e; omega
  have hxz : x ≠ z := fun e => by subst e; omega
  have a := path_third T hxy hyz hxz
  have b := path_third T hyz (Ne.symm hxz) (Ne.symm hxy)
  have c := path_third T (Ne.symm hxz) hxy (Ne.symm hyz)
  omega
theorem mem_winP {x : Nat} : (x : Int) ∈ winP n M ↔ x < n ∧ ∀ y, y < n → pathE n M y x ≤ pathE n M x y := by
  unfold winP winB
  simp only [List.mem_map, List.mem_filter, List.mem_range, List.all_eq_true, decide_eq_true_eq]
  constructor
  · rintro ⟨a, ⟨h1, h2⟩, h3⟩
    have : a = x := by omega
    subst this; exact ⟨h1, h2⟩
  · rintro ⟨h1, h2⟩; exact ⟨x, ⟨h1, h2⟩, rfl⟩
theorem winP_range {x : Int} (h : x ∈ winP n M) : 0 ≤ x ∧ x < n := by
  unfold winP at h
  simp only [List.mem_map, List.mem_filter, List.mem_range] at h
  obtain ⟨a, ⟨h1, _⟩, rfl⟩ := h
  omega
theorem winP_len : (winP n M).length ≤ n := by
  unfold winP; rw [List.length_map]; exact Nat.le_trans (List.length_filter_le _ _) (by simp)
theorem winP_ne (T : Tab n M) : winP n M ≠ [] := by
  have h : ∀ m, 1 ≤ m → m ≤ n → ∃ x, x < m ∧ ∀ y, y < m → pathE n M y x ≤ pathE n M x y := by
    intro m
    induction m with
    | zero => intro h; omega
    | succ m ih =>
      intro _ hm
      by_cases h0 : m = 0
      · subst h0
        exact ⟨0, by omega, fun y hy => by have : y = 0 := by omega
                                           subst this; exact Int.le_refl _⟩
      · obtain ⟨x, hx, hw⟩ := ih (by omega) (by omega)
        by_cases hd : pathE n M x m < pathE n M m x
        · refine ⟨m, by omega, fun y hy => ?_⟩
          by_cases e : y = m
          · subst e; exact Int.le_refl _
          · have h2 := hw y (by omega)
            by_cases h3 : pathE n M y m ≤ pathE n M m y
            · exact h3
            · have := path_order T (show pathE n M m y < pathE n M y m by omega) hd
              omega
        · refine ⟨x, by omega, fun y hy => ?_⟩
          by_cases e : y = m
          · subst e; omega
          · exact hw y (by omega)
  obtain ⟨x, hx, hw⟩ := h n T.pos (Nat.le_refl _)
  intro e
  have := mem_winP.2 ⟨hx, hw⟩
  rw [e] at this
  cases this
theorem path_out (T : Tab n M) {x s : Nat} (hx : x < n) (hs : s < n) (h1 : (s : Int) ∈ topL n M) (h2 : (x : Int) ∉ topL n M) : pathE n M x s = 0 := by
  have h0 := path_nonneg (n := n) (M := M) x s
  have hxs : x ≠ s := fun e => by subst e; exact h2 h1
  by_cases h : 1 ≤ pathE n M x s
  · exfalso
    have hr := (path_iff T h hxs).1 (Int.le_refl _)
    have : (s : Int) ∉ topL n M := hr.ind (P := fun z => (z : Int) ∉ topL n M) h2 (fun a b ha hb hp he hm => by
      have := top_dom T.pos M hb (by rcases ha with ha | ha; exact ha; omega) hm hp
      have hb := he.1
      unfold btB at hb
      have := of_decide_eq_true hb
      omega)
    exact this h1
  · omega
theorem win_top (T : Tab n M) {x : Int} (h : x ∈ winP n M) : x ∈ topL n M := by
  have hr := winP_range h
  obtain ⟨k, rfl⟩ : ∃ k : Nat, x = k := ⟨x.toNat, by omega⟩
  obtain ⟨hk, hw⟩ := mem_winP.1 h
  by_cases hm : (k : Int) ∈ topL n M
  · exact hm
  · exfalso
    obtain ⟨s, hs⟩ := List.exists_mem_of_ne_nil _ (top_ne T.pos M)
    have hsr := topL_range hs
    obtain ⟨j, rfl⟩ : ∃ j : Nat, s = j := ⟨s.toNat, by omega⟩
    have hd := top_dom T.pos M (show j < n by omega) hk hs hm
    have h1 := path_duel T hk hd
    have h2 := path_out T hk (show j < n by omega) hs hm
    have h3 := hw j (by omega)
    have := (T.bd k j).1
    omega
theorem winP_nodup : (winP n M).Nodup := by
  unfold winP
  exact List.Pairwise.map _ (fun a b hab => by intro e; exact hab (by omega)) ((List.nodup_range).filter _)
theorem win_one (T : Tab n M) (h : (topL n M).length = 1) : winP n M = topL n M := by
  obtain ⟨s, hs⟩ : ∃ s, topL n M = [s] := by
    cases ht : topL n M with
    | nil => rw [ht] at h; cases h
    | cons a l =>
      rw [ht] at h
      cases l with
      | nil => exact ⟨a, rfl⟩
      | cons b l => simp at h
  have hall : ∀ x ∈ winP n M, x = s := fun x hx => by have := win_top T hx; rw [hs] at this; simpa using this
  have hnd := winP_nodup (n := n) (M := M)
  have hne := winP_ne T
  rw [hs]
  cases hw : winP n M with
  | nil => exact absurd hw hne
  | cons a l =>
    rw [hw] at hall hnd
    have ha := hall a (by simp)
    subst ha
    cases l with
    | nil => rfl
    | cons b l =>
      have hb := hall b (by simp)
      subst hb
      simp at hnd
end
end Fm

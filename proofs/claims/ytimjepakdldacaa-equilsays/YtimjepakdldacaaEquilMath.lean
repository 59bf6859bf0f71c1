/-
  Two who choose at once: pairs at which neither would go, and what is left where lines are taken away of which another one has more at each: numbers and lists alone, no Go text.
-/
import Derived.Test.YtimjepakdldacaaPayMath
namespace Fm
set_option linter.unusedVariables false

structure Gam (r k : Nat) (A B : List (List Int)) : Prop where
  a : Pay r k A
  b : Pay r k B
/-- What Check answers. -/
def echk (A B : List (List Int)) : Int := if pchk A ≠ 0 then pchk A else if pchk B ≠ 0 then pchk B else if A.length ≠ B.length ∨ (A.getD 0 []).length ≠ (B.getD 0 []).length then 3 else 0
theorem echk_ok {A B : List (List Int)} (h : echk A B = 0) : Gam A.length (A.getD 0 []).length A B := by
  unfold echk at h
  by_cases h1 : pchk A = 0
  · rw [if_neg (by simpa using h1)] at h
    by_cases h2 : pchk B = 0
    · rw [if_neg (by simpa using h2)] at h
      by_cases h3 : A.length ≠ B.length ∨ (A.getD 0 []).length ≠ (B.getD 0 []).length
      · rw [if_pos h3] at h; cases h
      · have e1 : A.length = B.length := by omega
        have e2 : (A.getD 0 []).length = (B.getD 0 []).length := by omega
        refine ⟨pchk_ok h1, ?_⟩
        rw [e1, e2]
        exact pchk_ok h2
    · rw [if_pos h2] at h; exact absurd h h2
  · rw [if_pos h1] at h; exact absurd h h1
theorem Gam.chk {r k : Nat} {A B : List (List Int)} (g : Gam r k A B) : echk A B = 0 := by
  unfold echk
  rw [if_neg (by simpa using g.a.chk), if_neg (by simpa using g.b.chk), if_neg (by rw [g.a.len, g.b.len, g.a.head, g.b.head]; omega)]

/-- Pairs for which P is true, row by row. -/
def selI (P : Nat → Nat → Bool) (x : Nat) : Nat → List (Int × Int)
  | 0 => []
  | j + 1 => selI P x j ++ if P x j = true then [((x : Int), (j : Int))] else []
def selA (P : Nat → Nat → Bool) (k : Nat) : Nat → List (Int × Int)
  | 0 => []
  | i + 1 => selA P k i ++ selI P i k
section
variable {P : Nat → Nat → Bool} {k : Nat}
theorem mem_selI {x : Nat} {b : Int × Int} : ∀ j, b ∈ selI P x j ↔ ∃ y, y < j ∧ P x y = true ∧ b = ((x : Int), (y : Int)) := by
  intro j
  induction j with
  | zero => simp [selI]
  | succ j ih =>
    rw [selI, List.mem_append, ih]
    constructor
    · rintro (⟨y, h1, h2, h3⟩ | h)
      · exact ⟨y, by omega, h2, h3⟩
      · by_cases q : P x j = true
        · rw [if_pos q] at h; exact ⟨j, by omega, q, by simpa using h⟩
        · rw [if_neg q] at h; cases h
    · rintro ⟨y, h1, h2, h3⟩
      by_cases q : y = j
      · subst q; right; rw [if_pos h2, h3]; simp
      · left; exact ⟨y, by omega, h2, h3⟩
theorem mem_selA {b : Int × Int} : ∀ i, b ∈ selA P k i ↔ ∃ x y, x < i ∧ y < k ∧ P x y = true ∧ b = ((x : Int), (y : Int)) := by
  intro i
  induction i with
  | zero => simp [selA]
  | succ i ih =>
    rw [selA, List.mem_append, ih, mem_selI]
    constructor
    · rintro (⟨x, y, h1, h2, h3, h4⟩ | ⟨y, h1, h2, h3⟩)
      · exact ⟨x, y, by omega, h2, h3, h4⟩
      · exact ⟨i, y, by omega, h1, h2, h3⟩
    · rintro ⟨x, y, h1, h2, h3, h4⟩
      by_cases q : x = i
      · subst q; right; exact ⟨y, h2, h3, h4⟩
      · left; exact ⟨x, y, by omega, h2, h3, h4⟩
theorem selI_len (x : Nat) : ∀ j, (selI P x j).length ≤ j := by
  intro j
  induction j with
  | zero => exact Nat.le_refl _
  | succ j ih =>
    rw [selI, List.length_append]
    have : (if P x j = true then [((x : Int), (j : Int))] else []).length ≤ 1 := by split <;> simp
    omega
theorem selA_len : ∀ i, (selA P k i).length ≤ i * k := by
  intro i
  induction i with
  | zero => simp [selA]
  | succ i ih => rw [selA, List.length_append, Nat.succ_mul]; have := selI_len (P := P) i k; omega
theorem nodup_selI (x : Nat) : ∀ j, (selI P x j).Nodup := by
  intro j
  induction j with
  | zero => exact List.nodup_nil
  | succ j ih =>
    rw [selI, List.nodup_append]
    refine ⟨ih, by split <;> simp, fun a ha b hb => ?_⟩
    obtain ⟨y, h1, _, rfl⟩ := (mem_selI j).1 ha
    by_cases q : P x j = true
    · rw [if_pos q] at hb
      rw [List.mem_singleton] at hb
      subst hb
      intro e
      injection e with _ e
      omega
    · rw [if_neg q] at hb; cases hb
theorem nodup_selA : ∀ i, (selA P k i).Nodup := by
  intro i
  induction i with
  | zero => exact List.nodup_nil
  | succ i ih =>
    rw [selA, List.nodup_append]
    refine ⟨ih, nodup_selI i k, fun a ha b hb => ?_⟩
    obtain ⟨x, y, h1, _, _, rfl⟩ := (mem_selA i).1 ha
    obtain ⟨y', _, _, rfl⟩ := (mem_selI k).1 hb
    intro e
    injection e with e _
    omega
theorem selI_congr {Q : Nat → Nat → Bool} {x : Nat} : ∀ j, (∀ y, y < j → P x y = Q x y) → selI P x j = selI Q x j := by
  intro j
  induction j with
  | zero => intro _; rfl
  | succ j ih => intro h; rw [selI, selI, ih (fun y hy => h y (by omega)), h j (by omega)]
theorem selA_congr {Q : Nat → Nat → Bool} : ∀ i, (∀ x y, x < i → y < k → P x y = Q x y) → selA P k i = selA Q k i := by
  intro i
  induction i with
  | zero => intro _; rfl
  | succ i ih => intro h; rw [selA, selA, ih (fun x y hx hy => h x y (by omega) hy), selI_congr k (fun y hy => h i y (by omega) hy)]
theorem selI_pt (M : List (List Int)) (x : Nat) : ∀ j, selI (isPt M) x j = ptI M x j := by
  intro j
  induction j with
  | zero => rfl
  | succ j ih => rw [selI, ptI, ih]
theorem selA_pt (M : List (List Int)) (k : Nat) : ∀ i, selA (isPt M) k i = ptA M k i := by
  intro i
  induction i with
  | zero => rfl
  | succ i ih => rw [selA, ptA, ih, selI_pt]
end

/-- The greatest of a row. -/
def rmax (M : List (List Int)) (x : Nat) : Int := most (M.getD x [])
/-- A pair at which neither would go. -/
def isEq (A B : List (List Int)) (x y : Nat) : Bool := decide (ent A x y = cmax A y) && decide (ent B x y = rmax B x)
def eqA (A B : List (List Int)) (k r : Nat) : List (Int × Int) := selA (isEq A B) k r
section
variable {M A B T : List (List Int)} {r k : Nat}
theorem rmax_ge (p : Pay r k M) {x y : Nat} (hx : x < r) (hy : y < k) : ent M x y ≤ rmax M x := most_leM (getD_mem _ y (by rw [p.row hx]; exact hy))
theorem rmax_at (p : Pay r k M) {x : Nat} (hx : x < r) : ∃ y, y < k ∧ ent M x y = rmax M x := by
  have h1 := p.k1
  have h := most_mem (l := M.getD x []) (by rw [p.row hx]; omega)
  obtain ⟨i, hi, e⟩ := List.getElem_of_mem h
  refine ⟨i, by rw [p.row hx] at hi; exact hi, ?_⟩
  unfold ent rmax
  rw [← e, List.getD_eq_getElem?_getD, List.getElem?_eq_getElem hi]
  rfl
theorem isEq_iff (g : Gam r k A B) {x y : Nat} (hx : x < r) (hy : y < k) : isEq A B x y = true ↔ (∀ z, z < r → ent A z y ≤ ent A x y) ∧ ∀ z, z < k → ent B x z ≤ ent B x y := by
  unfold isEq
  simp only [Bool.and_eq_true, decide_eq_true_eq]
  constructor
  · rintro ⟨h1, h2⟩
    exact ⟨fun z hz => by rw [h1]; exact cmax_ge g.a y hz, fun z hz => by rw [h2]; exact rmax_ge g.b hx hz⟩
  · rintro ⟨h1, h2⟩
    obtain ⟨z, hz, e⟩ := cmax_at g.a y
    obtain ⟨z', hz', e'⟩ := rmax_at g.b hx
    have a1 := h1 z hz
    have a2 := cmax_ge g.a y hx
    have a3 := h2 z' hz'
    have a4 := rmax_ge g.b hx hy
    omega

/-- The line z has more than x at each that is kept. -/
def domL (M : List (List Int)) (C : Nat → Bool) (n z x : Nat) : Prop := ∀ c, c < n → C c = true → ent M x c < ent M z c
theorem domL_trans {C : Nat → Bool} {n x y z : Nat} (h1 : domL M C n z y) (h2 : domL M C n y x) : domL M C n z x := fun c hc hC => Int.lt_trans (h2 c hc hC) (h1 c hc hC)
theorem domL_less {C C' : Nat → Bool} {n x z : Nat} (h : domL M C n z x) (hs : ∀ c, c < n → C' c = true → C c = true) : domL M C' n z x := fun c hc hC => h c hc (hs c hc hC)
/-- Lines are taken away, one or several at once; T is the table of the second one, a line for each column. -/
inductive Reach (A T : List (List Int)) (r k : Nat) : (Nat → Bool) → (Nat → Bool) → Prop
  | start : Reach A T r k (fun _ => true) (fun _ => true)
  | rows {R R' C : Nat → Bool} (h : Reach A T r k R C) (hs : ∀ x, x < r → R' x = true → R x = true) (hd : ∀ x, x < r → R x = true → R' x = false → ∃ z, z < r ∧ R z = true ∧ domL A C k z x) : Reach A T r k R' C
  | cols {R C C' : Nat → Bool} (h : Reach A T r k R C) (hs : ∀ x, x < k → C' x = true → C x = true) (hd : ∀ x, x < k → C x = true → C' x = false → ∃ z, z < k ∧ C z = true ∧ domL T R r z x) : Reach A T r k R C'
/-- Nothing more can be taken away. -/
structure ClosedS (A T : List (List Int)) (r k : Nat) (R C : Nat → Bool) : Prop where
  rows : ∀ x z, x < r → z < r → R x = true → R z = true → ¬ domL A C k z x
  cols : ∀ x z, x < k → z < k → C x = true → C z = true → ¬ domL T R r z x
structure EndS (A T : List (List Int)) (r k : Nat) (R C : Nat → Bool) : Prop where
  reach : Reach A T r k R C
  closed : ClosedS A T r k R C

/-- Of a line that goes, another one that stays has more. -/
theorem best_dom (p : Pay r k A) {R R' C : Nat → Bool} {c0 : Nat} (hc0 : c0 < k) (hC : C c0 = true) (hd : ∀ x, x < r → R x = true → R' x = false → ∃ z, z < r ∧ R z = true ∧ domL A C k z x) :
    ∀ (d : Nat) (x : Nat), (1000 - ent A x c0).toNat ≤ d → x < r → R x = true → R' x = false → ∃ z, z < r ∧ R' z = true ∧ domL A C k z x := by
  intro d
  induction d with
  | zero =>
    intro x hle hx hR hR'
    obtain ⟨z, hz, hRz, hdz⟩ := hd x hx hR hR'
    have h1 := hdz c0 hc0 hC
    have h2 := (p.ent z c0).2
    omega
  | succ d ih =>
    intro x hle hx hR hR'
    obtain ⟨z, hz, hRz, hdz⟩ := hd x hx hR hR'
    cases q : R' z with
    | true => exact ⟨z, hz, q, hdz⟩
    | false =>
      have h1 := hdz c0 hc0 hC
      have h2 := (p.ent z c0).2
      obtain ⟨z2, hz2, hR2, hd2⟩ := ih z (by omega) hz hRz q
      exact ⟨z2, hz2, hR2, domL_trans hd2 hdz⟩
theorem best_dom' (p : Pay r k A) {R R' C : Nat → Bool} (hne : ∃ c, c < k ∧ C c = true) (hd : ∀ x, x < r → R x = true → R' x = false → ∃ z, z < r ∧ R z = true ∧ domL A C k z x) {x : Nat} (hx : x < r) (hR : R x = true) (hR' : R' x = false) : ∃ z, z < r ∧ R' z = true ∧ domL A C k z x := by
  obtain ⟨c0, h1, h2⟩ := hne
  exact best_dom p h1 h2 hd _ x (Nat.le_refl _) hx hR hR'
theorem reach_some (pA : Pay r k A) (pT : Pay k r T) {R C : Nat → Bool} (h : Reach A T r k R C) : (∃ x, x < r ∧ R x = true) ∧ ∃ c, c < k ∧ C c = true := by
  induction h with
  | start => exact ⟨⟨0, pA.r1, rfl⟩, ⟨0, pA.k1, rfl⟩⟩
  | @rows R R' C h hs hd ih =>
    refine ⟨?_, ih.2⟩
    obtain ⟨x, hx, hR⟩ := ih.1
    cases q : R' x with
    | true => exact ⟨x, hx, q⟩
    | false =>
      obtain ⟨z, hz, hz', _⟩ := best_dom' pA ih.2 hd hx hR q
      exact ⟨z, hz, hz'⟩
  | @cols R C C' h hs hd ih =>
    refine ⟨ih.1, ?_⟩
    obtain ⟨x, hx, hC⟩ := ih.2
    cases q : C' x with
    | true => exact ⟨x, hx, q⟩
    | false =>
      obtain ⟨z, hz, hz', _⟩ := best_dom' pT ih.1 hd hx hC q
      exact ⟨z, hz, hz'⟩
/-- Of each line that has gone, one that is left has more. -/
theorem reach_dom (pA : Pay r k A) (pT : Pay k r T) {R C : Nat → Bool} (h : Reach A T r k R C) :
    (∀ x, x < r → R x = false → ∃ z, z < r ∧ R z = true ∧ domL A C k z x) ∧ ∀ x, x < k → C x = false → ∃ z, z < k ∧ C z = true ∧ domL T R r z x := by
  induction h with
  | start => exact ⟨(fun x _ h => by cases h), fun x _ h => by cases h⟩
  | @rows R R' C h hs hd ih =>
    have hne := (reach_some pA pT h).2
    refine ⟨fun x hx hR' => ?_, fun x hx hC => ?_⟩
    · cases q : R x with
      | true => exact best_dom' pA hne hd hx q hR'
      | false =>
        obtain ⟨z, hz, hRz, hdz⟩ := ih.1 x hx q
        cases q2 : R' z with
        | true => exact ⟨z, hz, q2, hdz⟩
        | false =>
          obtain ⟨z2, hz2, hR2, hd2⟩ := best_dom' pA hne hd hz hRz q2
          exact ⟨z2, hz2, hR2, domL_trans hd2 hdz⟩
    · obtain ⟨z, hz, hCz, hdz⟩ := ih.2 x hx hC
      exact ⟨z, hz, hCz, domL_less hdz hs⟩
  | @cols R C C' h hs hd ih =>
    have hne := (reach_some pA pT h).1
    refine ⟨fun x hx hR => ?_, fun x hx hC' => ?_⟩
    · obtain ⟨z, hz, hRz, hdz⟩ := ih.1 x hx hR
      exact ⟨z, hz, hRz, domL_less hdz hs⟩
    · cases q : C x with
      | true => exact best_dom' pT hne hd hx q hC'
      | false =>
        obtain ⟨z, hz, hCz, hdz⟩ := ih.2 x hx q
        cases q2 : C' z with
        | true => exact ⟨z, hz, q2, hdz⟩
        | false =>
          obtain ⟨z2, hz2, hC2, hd2⟩ := best_dom' pT hne hd hz hCz q2
          exact ⟨z2, hz2, hC2, domL_trans hd2 hdz⟩
/-- What is left at an end is never taken away on another way. -/
theorem reach_keeps (pA : Pay r k A) (pT : Pay k r T) {E F : Nat → Bool} (e : EndS A T r k E F) {R C : Nat → Bool} (h : Reach A T r k R C) : (∀ x, x < r → E x = true → R x = true) ∧ ∀ x, x < k → F x = true → C x = true := by
  have hdom := reach_dom pA pT e.reach
  induction h with
  | start => exact ⟨fun _ _ _ => rfl, fun _ _ _ => rfl⟩
  | @rows R R' C h hs hd ih =>
    refine ⟨fun x hx hE => ?_, ih.2⟩
    cases q : R' x with
    | true => rfl
    | false =>
      obtain ⟨z, hz, _, hdz⟩ := hd x hx (ih.1 x hx hE) q
      have hd1 := domL_less hdz ih.2
      cases q2 : E z with
      | true => exact absurd hd1 (e.closed.rows x z hx hz hE q2)
      | false =>
        obtain ⟨z2, hz2, hE2, hd2⟩ := hdom.1 z hz q2
        exact absurd (domL_trans hd2 hd1) (e.closed.rows x z2 hx hz2 hE hE2)
  | @cols R C C' h hs hd ih =>
    refine ⟨ih.1, fun x hx hF => ?_⟩
    cases q : C' x with
    | true => rfl
    | false =>
      obtain ⟨z, hz, _, hdz⟩ := hd x hx (ih.2 x hx hF) q
      have hd1 := domL_less hdz ih.1
      cases q2 : F z with
      | true => exact absurd hd1 (e.closed.cols x z hx hz hF q2)
      | false =>
        obtain ⟨z2, hz2, hF2, hd2⟩ := hdom.2 z hz q2
        exact absurd (domL_trans hd2 hd1) (e.closed.cols x z2 hx hz2 hF hF2)
theorem bool_ext {a b : Bool} (h1 : a = true → b = true) (h2 : b = true → a = true) : a = b := by cases a <;> cases b <;> simp_all
/-- There is but one end. -/
theorem end_one (pA : Pay r k A) (pT : Pay k r T) {R C R' C' : Nat → Bool} (e : EndS A T r k R C) (e' : EndS A T r k R' C') : (∀ x, x < r → R x = R' x) ∧ ∀ x, x < k → C x = C' x := by
  have h1 := reach_keeps pA pT e e'.reach
  have h2 := reach_keeps pA pT e' e.reach
  exact ⟨fun x hx => bool_ext (h1.1 x hx) (h2.1 x hx), fun x hx => bool_ext (h1.2 x hx) (h2.2 x hx)⟩
/-- The lines that are left. -/
def keptL (n : Nat) (R : Nat → Bool) : List Int := (sides n).filter fun x => R x.toNat
theorem keptL_congr' {n : Nat} {R R' : Nat → Bool} (h : ∀ x, x < n → R x = R' x) : keptL n R = keptL n R' := by
  unfold keptL
  refine List.filter_congr (fun x hx => ?_)
  have := mem_sides.1 hx
  exact h _ (by omega)
theorem mem_keptL {n : Nat} {R : Nat → Bool} {x : Int} : x ∈ keptL n R ↔ ∃ y : Nat, x = y ∧ y < n ∧ R y = true := by
  unfold keptL
  rw [List.mem_filter]
  constructor
  · rintro ⟨h1, h2⟩
    have := mem_sides.1 h1
    exact ⟨x.toNat, by omega, by omega, h2⟩
  · rintro ⟨y, rfl, h1, h2⟩
    exact ⟨mem_sides.2 ⟨by omega, by omega⟩, by simpa using h2⟩
theorem keptL_le (n : Nat) (R : Nat → Bool) : (keptL n R).length ≤ n := by
  have := List.length_filter_le (fun x : Int => R x.toNat) (sides n)
  rw [sides_len] at this
  exact this
/-- No pair at which neither would go is taken away. -/
theorem eq_stays (g : Gam r k A B) (hT : ∀ x y, x < r → y < k → ent T y x = ent B x y) {R C : Nat → Bool} (h : Reach A T r k R C) {x y : Nat} (hx : x < r) (hy : y < k) (he : isEq A B x y = true) : R x = true ∧ C y = true := by
  obtain ⟨h1, h2⟩ := (isEq_iff g hx hy).1 he
  induction h with
  | start => exact ⟨rfl, rfl⟩
  | @rows R R' C h hs hd ih =>
    refine ⟨?_, ih.2⟩
    cases q : R' x with
    | true => rfl
    | false =>
      obtain ⟨z, hz, _, hdz⟩ := hd x hx ih.1 q
      have a1 := hdz y hy ih.2
      have a2 := h1 z hz
      omega
  | @cols R C C' h hs hd ih =>
    refine ⟨ih.1, ?_⟩
    cases q : C' y with
    | true => rfl
    | false =>
      obtain ⟨z, hz, _, hdz⟩ := hd y hy ih.2 q
      have a1 := hdz x hx ih.1
      rw [hT x y hx hy, hT x z hx hz] at a1
      have a2 := h2 z hz
      omega
/-- Where one pair is left, it is such a pair. -/
theorem one_left (g : Gam r k A B) (pT : Pay k r T) (hT : ∀ x y, x < r → y < k → ent T y x = ent B x y) {R C : Nat → Bool} (h : Reach A T r k R C) {x y : Nat} (hx : x < r) (hy : y < k) (hR : ∀ z, z < r → (R z = true ↔ z = x)) (hC : ∀ z, z < k → (C z = true ↔ z = y)) : isEq A B x y = true := by
  have hd := reach_dom g.a pT h
  refine (isEq_iff g hx hy).2 ⟨fun z hz => ?_, fun z hz => ?_⟩
  · by_cases e : z = x
    · rw [e]; exact Int.le_refl _
    · cases q : R z with
      | true => exact absurd ((hR z hz).1 q) e
      | false =>
        obtain ⟨z2, hz2, hR2, hd2⟩ := hd.1 z hz q
        obtain rfl := (hR z2 hz2).1 hR2
        have := hd2 y hy ((hC y hy).2 rfl)
        omega
  · by_cases e : z = y
    · rw [e]; exact Int.le_refl _
    · cases q : C z with
      | true => exact absurd ((hC z hz).1 q) e
      | false =>
        obtain ⟨z2, hz2, hC2, hd2⟩ := hd.2 z hz q
        obtain rfl := (hC z2 hz2).1 hC2
        have := hd2 x hx ((hR x hx).2 rfl)
        rw [hT x z hx hz, hT x z2 hx hz2] at this
        omega
/-- In the part that is left nothing more is taken away. -/
theorem part_all {A' T' : List (List Int)} {r' k' : Nat} {R C : Nat → Bool} (c : ClosedS A T r k R C) (X Y : Nat → Nat) (hX : ∀ i, i < r' → X i < r ∧ R (X i) = true) (hY : ∀ j, j < k' → Y j < k ∧ C (Y j) = true)
    (sX : ∀ x, x < r → R x = true → ∃ i, i < r' ∧ X i = x) (sY : ∀ y, y < k → C y = true → ∃ j, j < k' ∧ Y j = y)
    (hA : ∀ i j, i < r' → j < k' → ent A' i j = ent A (X i) (Y j)) (hT : ∀ i j, i < r' → j < k' → ent T' j i = ent T (Y j) (X i)) {R' C' : Nat → Bool} (h : Reach A' T' r' k' R' C') : (∀ i, i < r' → R' i = true) ∧ ∀ j, j < k' → C' j = true := by
  induction h with
  | start => exact ⟨fun _ _ => rfl, fun _ _ => rfl⟩
  | @rows R1 R2 C1 h hs hd ih =>
    refine ⟨fun i hi => ?_, ih.2⟩
    cases q : R2 i with
    | true => rfl
    | false =>
      obtain ⟨z, hz, _, hdz⟩ := hd i hi (ih.1 i hi) q
      refine absurd (fun y hy hC => ?_) (c.rows (X i) (X z) (hX i hi).1 (hX z hz).1 (hX i hi).2 (hX z hz).2)
      obtain ⟨j, hj, rfl⟩ := sY y hy hC
      have := hdz j hj (ih.2 j hj)
      rwa [hA i j hi hj, hA z j hz hj] at this
  | @cols R1 C1 C2 h hs hd ih =>
    refine ⟨ih.1, fun j hj => ?_⟩
    cases q : C2 j with
    | true => rfl
    | false =>
      obtain ⟨z, hz, _, hdz⟩ := hd j hj (ih.2 j hj) q
      refine absurd (fun x hx hR => ?_) (c.cols (Y j) (Y z) (hY j hj).1 (hY z hz).1 (hY j hj).2 (hY z hz).2)
      obtain ⟨i, hi, rfl⟩ := sX x hx hR
      have := hdz i hi (ih.1 i hi)
      rwa [hT i j hi hj, hT i z hi hz] at this
end
end Fm

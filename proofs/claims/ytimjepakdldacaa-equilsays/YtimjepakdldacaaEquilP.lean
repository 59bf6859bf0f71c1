/-
  What the contracts of package equil say, each as a statement of its own.
-/
import Derived.Test.YtimjepakdldacaaDuelP
import Derived.Test.YtimjepakdldacaaEquilMath
import Derived.Test.YtimjepakdldacaaPayP
import Derived.Test.YtimjepakdldacaaPairs
namespace Go.Proofs.Ytimjepakdldacaa
open Go.RowKit Fm
set_option linter.unusedVariables false

def ECheck : Prop := ∀ (a : Option Addr) (m c : Nat) (A : List (List Int)) (b : Option Addr) (n d : Nat) (B : List (List Int)) (w : World), TabIn w a m A → TabIn w b n B →
    Calls Try.prog 12 #[.slice a m c, .slice b n d] w fun e w' => e = .returned (.int .i64 (echk A B)) ∧ Below w.heap.size w w'

def ERestE : Prop := ∀ (a : Option Addr) (m c : Nat) (A : List (List Int)) (b : Option Addr) (n d : Nat) (B : List (List Int)) (w : World), TabIn w a m A → TabIn w b n B → echk A B ≠ 0 →
    Calls Try.prog 9 #[.slice a m c, .slice b n d] w (ErrOut (echk A B) w)

def ERest : Prop := ∀ (r k : Nat) (a : Option Addr) (m c : Nat) (A : List (List Int)) (b : Option Addr) (n d : Nat) (B : List (List Int)) (w : World), TabIn w a m A → TabIn w b n B → Gam r k A B →
    Calls Try.prog 9 #[.slice a m c, .slice b n d] w (PairsOut (eqA A B k r) w)

/-- Two empty rows and an error. -/
def TwoErr (r : Int) (w : World) (e : Ending) (w' : World) : Prop := ∃ a c b d, e = .returned (.tuple #[.slice a 0 c, .slice b 0 d, .int .i64 r]) ∧ Below w.heap.size w w'
/-- What is left when lines are taken away, as long as there is one to take. -/
def LeftOut (A B : List (List Int)) (r k : Nat) (w : World) (e : Ending) (w' : World) : Prop :=
  ∃ R C, EndS A (colsM k B) r k R C ∧ ∃ a c b d, e = .returned (.tuple #[.slice a (keptL r R).length c, .slice b (keptL k C).length d, .int .i64 0]) ∧ (keptL r R).length ≤ c ∧ (keptL k C).length ≤ d ∧
    Rd w' w'.heap.size a (keptL r R).length (keptL r R) ∧ Rd w' w'.heap.size b (keptL k C).length (keptL k C) ∧ Below w.heap.size w w'

def ELeftE : Prop := ∀ (a : Option Addr) (m c : Nat) (A : List (List Int)) (b : Option Addr) (n d : Nat) (B : List (List Int)) (w : World), TabIn w a m A → TabIn w b n B → echk A B ≠ 0 →
    Calls Try.prog 10 #[.slice a m c, .slice b n d] w (TwoErr (echk A B) w)

def ELeft : Prop := ∀ (r k : Nat) (a : Option Addr) (m c : Nat) (A : List (List Int)) (b : Option Addr) (n d : Nat) (B : List (List Int)) (w : World), TabIn w a m A → TabIn w b n B → Gam r k A B →
    Calls Try.prog 10 #[.slice a m c, .slice b n d] w (LeftOut A B r k w)

theorem eq36 {r k : Nat} {A B : List (List Int)} (g : Gam r k A B) : (eqA A B k r).length ≤ 36 := by
  have h : (eqA A B k r).length ≤ r * k := selA_len (P := isEq A B) (k := k) r
  have := g.a.r6
  have := g.a.k6
  have h2 : r * k ≤ 6 * 6 := Nat.mul_le_mul (by omega) (by omega)
  omega
theorem cols_pay {r k : Nat} {M : List (List Int)} (p : Pay r k M) : Pay k r (colsM k M) where
  len := colsM_len k M
  r1 := p.k1
  r6 := p.k6
  k1 := p.r1
  k6 := p.r6
  rows l hl := by rw [colsM_rows hl, p.len]
  bd l hl x hx := by
    unfold colsM at hl
    rw [List.mem_map] at hl
    obtain ⟨y, hy, rfl⟩ := hl
    unfold colL at hx
    rw [List.mem_map] at hx
    obtain ⟨q, hq, rfl⟩ := hx
    by_cases h : y < q.length
    · exact p.bd q hq _ (getD_mem q y h)
    · rw [List.getD_eq_getElem?_getD, List.getElem?_eq_none (by omega)]
      decide
theorem cols_ent {r k : Nat} {M : List (List Int)} (p : Pay r k M) {x y : Nat} (hx : x < r) (hy : y < k) : ent (colsM k M) y x = ent M x y := by
  show ((colsM k M).getD y []).getD x 0 = _
  rw [colsM_at hy, colL_at y (by rw [p.len]; exact hx)]

/-- The prisoners' dilemma. -/
def A6 : List (List Int) := [[3, 0], [5, 1]]
def B6 : List (List Int) := [[3, 5], [0, 1]]
theorem g6_ok : Gam 2 2 A6 B6 := ⟨⟨by decide, by decide, by decide, by decide, by decide, by decide, by decide⟩, ⟨by decide, by decide, by decide, by decide, by decide, by decide, by decide⟩⟩
theorem g6_pts : eqA A6 B6 2 2 = [(1, 1)] := by decide +kernel
theorem g6_end : EndS A6 (colsM 2 B6) 2 2 (fun x => x == 1) (fun x => x == 1) where
  reach := by
    refine .cols (C := fun _ => true) (.rows (R := fun _ => true) .start (fun _ _ _ => rfl) (fun x hx _ h => ⟨1, by omega, rfl, ?_⟩)) (fun _ _ _ => rfl) (fun x hx _ h => ⟨1, by omega, rfl, ?_⟩)
    · have : x = 0 := by
        have : x = 0 ∨ x = 1 := by omega
        rcases this with e | e
        · exact e
        · subst e; cases h
      subst this
      unfold domL
      decide
    · have : x = 0 := by
        have : x = 0 ∨ x = 1 := by omega
        rcases this with e | e
        · exact e
        · subst e; cases h
      subst this
      unfold domL
      decide
  closed := ⟨fun x z hx hz h1 h2 hd => by
      have e1 : x = 1 := by simpa using h1
      have e2 : z = 1 := by simpa using h2
      subst e1; subst e2
      have := hd 1 (by omega) rfl
      omega, fun x z hx hz h1 h2 hd => by
      have e1 : x = 1 := by simpa using h1
      have e2 : z = 1 := by simpa using h2
      subst e1; subst e2
      have := hd 1 (by omega) rfl
      omega⟩
theorem g6_left {R C : Nat → Bool} (e : EndS A6 (colsM 2 B6) 2 2 R C) : keptL 2 R = [1] ∧ keptL 2 C = [1] := by
  obtain ⟨h1, h2⟩ := end_one g6_ok.a (cols_pay g6_ok.b) e g6_end
  exact ⟨(keptL_congr' h1).trans (by decide +kernel), (keptL_congr' h2).trans (by decide +kernel)⟩
end Go.Proofs.Ytimjepakdldacaa

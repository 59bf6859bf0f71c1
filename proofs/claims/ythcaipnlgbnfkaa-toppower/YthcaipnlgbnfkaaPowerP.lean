/-
  What the contracts of package power say, each as a statement of its own: the laws above are proved from them; they are proved of the package's own text apart.
-/
import Derived.Test.YthcaipnlgbnfkaaOuts
import Derived.Test.YthcaipnlgbnfkaaArrMath
namespace Go.Proofs.Ythcaipnlgbnfkaa
open Go.RowKit Fm
set_option linter.unusedVariables false

def wt (P : List Int) (i : Nat) : Nat := (P.getD i 0).toNat
/-- What power.Check answers. -/
def wchk (P : List Int) (q : Int) : Int := if P.length = 0 ∨ 6 < P.length then 2 else if ¬ (∀ x ∈ P, 0 ≤ x ∧ x ≤ 1000) then 1 else if q < 1 ∨ P.sum < q then 3 else 0
/-- What power.Wins answers. -/
def winE (P : List Int) (q set : Int) : Int := if wchk P q ≠ 0 then wchk P q else if set < 0 ∨ (2 ^ P.length : Nat) ≤ set then 1 else 0
def winA (P : List Int) (q set : Int) : Bool := decide (winE P q set = 0) && winB2 (wt P) P.length q.toNat set.toNat
def swL (P : List Int) (q : Nat) : List Int := fnL P.length (fun i => (swN (wt P) P.length q i.toNat : Int))
def tuL (P : List Int) (q : Nat) : List Int := fnL P.length (fun i => (tuN (wt P) P.length q i.toNat : Int))
theorem swL_len (P : List Int) (q : Nat) : (swL P q).length = P.length := fnL_len _ _
theorem tuL_len (P : List Int) (q : Nat) : (tuL P q).length = P.length := fnL_len _ _
theorem swL_at (P : List Int) (q : Nat) {i : Nat} (hi : i < P.length) : (swL P q).getD i 0 = swN (wt P) P.length q i := by unfold swL; rw [fnL_at _ _ hi]; simp
theorem tuL_at (P : List Int) (q : Nat) {i : Nat} (hi : i < P.length) : (tuL P q).getD i 0 = tuN (wt P) P.length q i := by unfold tuL; rw [fnL_at _ _ hi]; simp
/-- A game that is right. -/
structure Wgt (P : List Int) (q : Nat) : Prop where
  pos : 1 ≤ P.length
  le : P.length ≤ 6
  bd : ∀ x ∈ P, 0 ≤ x ∧ x ≤ 1000
  q1 : 1 ≤ q
  q2 : q ≤ sN (wt P) P.length
theorem wt_at {P : List Int} (hb : ∀ x ∈ P, 0 ≤ x ∧ x ≤ 1000) {i : Nat} (hi : i < P.length) : P.getD i 0 = (wt P i : Int) ∧ wt P i ≤ 1000 := by
  have := hb _ (getD_mem P i hi)
  unfold wt
  omega
theorem fnL_sum (f : Nat → Nat) (n : Nat) : (fnL n (fun i => (f i.toNat : Int))).sum = (sN f n : Int) := by
  unfold fnL
  induction n with
  | zero => rfl
  | succ n ih => rw [sides_succ, List.map_append, List.sum_append, ih, sN]; simp
theorem wt_sum {P : List Int} (hb : ∀ x ∈ P, 0 ≤ x ∧ x ≤ 1000) : P.sum = (sN (wt P) P.length : Int) := by
  have e : P = fnL P.length (fun i => ((wt P i.toNat : Nat) : Int)) := by
    have e2 : fnL P.length (fun i => ((wt P i.toNat : Nat) : Int)) = (sides P.length).map (fun z => P.getD z.toNat 0) := by
      unfold fnL
      apply List.map_congr_left
      intro z hz
      have hz := mem_sides.1 hz
      exact (wt_at hb (i := z.toNat) (by omega)).1.symm
    rw [e2]; exact as_map P
  have h := fnL_sum (wt P) P.length
  rw [← e] at h
  exact h
theorem wchk_ok {P : List Int} {q : Int} (h : wchk P q = 0) : ∃ k : Nat, q = k ∧ Wgt P k := by
  unfold wchk at h
  by_cases h1 : P.length = 0 ∨ 6 < P.length
  · rw [if_pos h1] at h; cases h
  · rw [if_neg h1] at h
    by_cases h2 : ∀ x ∈ P, 0 ≤ x ∧ x ≤ 1000
    · rw [if_neg (by simpa using h2)] at h
      by_cases h3 : q < 1 ∨ P.sum < q
      · rw [if_pos h3] at h; cases h
      · have hs := wt_sum h2
        exact ⟨q.toNat, by omega, ⟨by omega, by omega, h2, by omega, by omega⟩⟩
    · rw [if_pos h2] at h; cases h
theorem Wgt.chk {P : List Int} {q : Nat} (g : Wgt P q) : wchk P q = 0 := by
  have h1 := g.pos
  have h2 := g.le
  have h3 := g.q1
  have h4 := g.q2
  unfold wchk
  rw [if_neg (by omega), if_neg (by simpa using g.bd), if_neg (by rw [wt_sum g.bd]; omega)]
theorem Wgt.win {P : List Int} {q : Nat} (g : Wgt P q) {S : Nat} (hS : S < 2 ^ P.length) : winE P q S = 0 ∧ winA P q S = winB2 (wt P) P.length q S := by
  have e : winE P q S = 0 := by unfold winE; rw [if_neg (by simpa using g.chk), if_neg (by omega)]
  refine ⟨e, ?_⟩
  unfold winA
  rw [e]
  simp
theorem tu_bd {P : List Int} {q i : Nat} (h1 : 1 ≤ P.length) (h6 : P.length ≤ 6) : tuN (wt P) P.length q i ≤ 720 := Nat.le_trans (tu_le i) (allO_le h1 h6)
theorem pow_le6 {n : Nat} (h : n ≤ 6) : 2 ^ n ≤ 64 := Nat.pow_le_pow_right (by omega) h
theorem sw_bd {P : List Int} {q i : Nat} (h6 : P.length ≤ 6) : swN (wt P) P.length q i ≤ 64 := Nat.le_trans (cS_le _ _) (pow_le6 h6)

/-- A list of ints that a machine can hold. -/
def LstW (w : World) (a : Option Addr) (m c : Nat) (l : List Int) : Prop := Rd w w.heap.size a m l ∧ m ≤ 17592186044416 ∧ m ≤ c

def PwCheck : Prop := ∀ (a : Option Addr) (m c : Nat) (P : List Int) (q : Int) (w : World), LstW w a m c P →
    Calls Try.prog 88 #[.slice a m c, .int .i64 q] w fun e w' => e = .returned (.int .i64 (wchk P q)) ∧ Below w.heap.size w w'

def PwWins : Prop := ∀ (a : Option Addr) (m c : Nat) (P : List Int) (q set : Int) (w : World), LstW w a m c P →
    Calls Try.prog 49 #[.slice a m c, .int .i64 q, .int .i64 set] w fun e w' => e = .returned (.tuple #[.bool (winA P q set), .int .i64 (winE P q set)]) ∧ Below w.heap.size w w'



def PwTurnsE : Prop := ∀ (a : Option Addr) (m c : Nat) (P : List Int) (q : Int) (w : World), LstW w a m c P → wchk P q ≠ 0 →
    Calls Try.prog 50 #[.slice a m c, .int .i64 q] w (ErrOut (wchk P q) w)

def PwTurns : Prop := ∀ (a : Option Addr) (m c : Nat) (P : List Int) (q : Nat) (w : World), LstW w a m c P → Wgt P q →
    Calls Try.prog 50 #[.slice a m c, .int .i64 q] w (IntsOut (tuL P q) w)

/-- What is handed back, without an error. -/
def PwOut (n : Nat) (l : List Int) (w : World) (e : Ending) (w' : World) : Prop := ∃ a c, e = .returned (.tuple #[.slice a n c, .int .i64 0]) ∧ Rd w' w'.heap.size a n l ∧ Below w.heap.size w w'


theorem tu_use (sT : PwTurns) {P : List Int} {q n : Nat} (g : Wgt P q) (hn : P.length = n) (a : Option Addr) (c : Nat) (hc : n ≤ c) (W : World) (hr : Rd W W.heap.size a n P) :
    Calls Try.prog 50 #[.slice a n c, .int .i64 q] W (PwOut n (tuL P q) W) := by
  have hp := g.le
  refine (sT a n c P q W ⟨hr, by omega, hc⟩ g).mono ?_
  rintro e w' ⟨a, c, rfl, _, _, r, hb⟩
  rw [tuL_len, hn] at r ⊢
  exact ⟨a, c, rfl, r, hb⟩

end Go.Proofs.Ythcaipnlgbnfkaa

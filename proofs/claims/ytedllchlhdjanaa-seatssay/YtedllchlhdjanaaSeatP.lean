/-
  What the contracts of package seats say, each as a statement of its own: the laws above are proved from them; they are proved of the package's own text apart.
-/
import Derived.Test.YtedllchlhdjanaaOuts
import Derived.Test.YtedllchlhdjanaaPartSeat
namespace Go.Proofs.Ytedllchlhdjanaa
open Go.RowKit Fm
set_option linter.unusedVariables false

def xs (P : List Int) (i : Nat) : Nat := (P.getD i 0).toNat
def shareN (way : Int) (P : List Int) (h i : Nat) : Nat := if way = 3 then partS P.length (xs P) h i else seatT way.toNat P.length (xs P) h i
/-- The seats of each party. -/
def sharesL (way : Int) (P : List Int) (h : Nat) : List Int := fnL P.length (fun i => (shareN way P h i.toNat : Int))
/-- What seats.Check answers. -/
def pchk (P : List Int) (h : Int) : Int := if P.length = 0 ∨ 8 < P.length then 2 else if ¬ (∀ x ∈ P, 0 ≤ x ∧ x ≤ 1000000) then 1 else if (∀ x ∈ P, x = 0) then 4 else if h < 0 ∨ 100 < h then 1 else 0
/-- What seats.Share answers. -/
def schk (way : Int) (P : List Int) (h : Int) : Int := if way < 1 ∨ 3 < way then 1 else pchk P h

theorem shares_len (way : Int) (P : List Int) (h : Nat) : (sharesL way P h).length = P.length := fnL_len _ _
theorem shares_at (way : Int) (P : List Int) (h : Nat) {i : Nat} (hi : i < P.length) : (sharesL way P h).getD i 0 = shareN way P h i := by
  unfold sharesL; rw [fnL_at _ _ hi]; simp
/-- People that are right. -/
structure Ppl (P : List Int) : Prop where
  pos : 1 ≤ P.length
  le : P.length ≤ 8
  bd : ∀ x ∈ P, 0 ≤ x ∧ x ≤ 1000000
  some_ : 0 < sN (xs P) P.length
theorem Ppl.at_ {P : List Int} (h : Ppl P) {i : Nat} (hi : i < P.length) : P.getD i 0 = (xs P i : Int) ∧ xs P i ≤ 1000000 := by
  have := h.bd _ (getD_mem P i hi)
  unfold xs
  omega
theorem sN_pos {P : List Int} (hb : ∀ x ∈ P, 0 ≤ x) (h : ¬ ∀ x ∈ P, x = 0) : 0 < sN (xs P) P.length := by
  by_cases q : 0 < sN (xs P) P.length
  · exact q
  · exfalso
    apply h
    intro x hx
    obtain ⟨i, hi, rfl⟩ := List.getElem_of_mem hx
    have h1 := sN_mem (f := xs P) hi
    have h2 := hb _ (List.getElem_mem hi)
    have h3 : xs P i = (P[i]).toNat := by unfold xs; rw [getD_get hi]
    omega
theorem pchk_ok {P : List Int} {h : Int} (hc : pchk P h = 0) : Ppl P ∧ 0 ≤ h ∧ h ≤ 100 := by
  unfold pchk at hc
  by_cases h1 : P.length = 0 ∨ 8 < P.length
  · rw [if_pos h1] at hc; cases hc
  · rw [if_neg h1] at hc
    by_cases h2 : ∀ x ∈ P, 0 ≤ x ∧ x ≤ 1000000
    · rw [if_neg (by simpa using h2)] at hc
      by_cases h3 : ∀ x ∈ P, x = 0
      · rw [if_pos h3] at hc; cases hc
      · rw [if_neg h3] at hc
        by_cases h4 : h < 0 ∨ 100 < h
        · rw [if_pos h4] at hc; cases hc
        · exact ⟨⟨by omega, by omega, h2, sN_pos (fun x hx => (h2 x hx).1) h3⟩, by omega, by omega⟩
    · rw [if_pos h2] at hc; cases hc
theorem Ppl.chk {P : List Int} (p : Ppl P) {h : Int} (h0 : 0 ≤ h) (h1 : h ≤ 100) : pchk P h = 0 := by
  unfold pchk
  have hp := p.pos
  have hl := p.le
  rw [if_neg (by omega), if_neg (by simpa using p.bd), if_neg ?_, if_neg (by omega)]
  intro q
  have h2 := p.some_
  have : sN (xs P) P.length = sN (fun _ => 0) P.length := sN_congr (fun i hi => by unfold xs; rw [q _ (getD_mem P i hi)]; rfl)
  rw [this, sN_zero] at h2
  omega
theorem Ppl.schk {P : List Int} (p : Ppl P) {way h : Int} (w1 : 1 ≤ way) (w3 : way ≤ 3) (h0 : 0 ≤ h) (h1 : h ≤ 100) : schk way P h = 0 := by
  unfold Go.Proofs.Ytedllchlhdjanaa.schk; rw [if_neg (by omega)]; exact p.chk h0 h1

/-- A list of ints that a machine can hold. -/
def LstS (w : World) (a : Option Addr) (m c : Nat) (l : List Int) : Prop := Rd w w.heap.size a m l ∧ m ≤ 17592186044416 ∧ m ≤ c
theorem LstS.below {w w' : World} {a : Option Addr} {m c : Nat} {l : List Int} (h : LstS w a m c l) (hb : Below w.heap.size w w') : LstS w' a m c l := ⟨rd_ext h.1 hb, h.2⟩

def SCheck : Prop := ∀ (a : Option Addr) (m c : Nat) (P : List Int) (h : Int) (w : World), LstS w a m c P →
    Calls Try.prog 11 #[.slice a m c, .int .i64 h] w fun e w' => e = .returned (.int .i64 (pchk P h)) ∧ Below w.heap.size w w'

def SShareE : Prop := ∀ (way : Int) (a : Option Addr) (m c : Nat) (P : List Int) (h : Int) (w : World), LstS w a m c P → schk way P h ≠ 0 →
    Calls Try.prog 9 #[.int .i64 way, .slice a m c, .int .i64 h] w (ErrOut (schk way P h) w)

def SShare : Prop := ∀ (way : Int) (a : Option Addr) (m c : Nat) (P : List Int) (h : Nat) (w : World), LstS w a m c P → schk way P h = 0 →
    Calls Try.prog 9 #[.int .i64 way, .slice a m c, .int .i64 h] w (IntsOut (sharesL way P h) w)

/-- What the share of each party keeps, by whatever way. -/
theorem share_sum {P : List Int} (p : Ppl P) (way : Int) (h : Nat) : sN (shareN way P h) P.length = h := by
  unfold shareN
  by_cases e : way = 3
  · have : (fun i => if way = 3 then partS P.length (xs P) h i else seatT way.toNat P.length (xs P) h i) = partS P.length (xs P) h := by funext i; rw [if_pos e]
    rw [this]; exact partS_sum p.pos p.some_
  · have : (fun i => if way = 3 then partS P.length (xs P) h i else seatT way.toNat P.length (xs P) h i) = seatT way.toNat P.length (xs P) h := by funext i; rw [if_neg e]
    rw [this]; exact seatT_sum p.pos h
theorem share_le {P : List Int} (p : Ppl P) (way : Int) (h : Nat) {i : Nat} (hi : i < P.length) : shareN way P h i ≤ h := by
  have := sN_mem (f := shareN way P h) hi
  rwa [share_sum p] at this
theorem sides_sum (f : Nat → Nat) (n : Nat) : (fnL n (fun i => (f i.toNat : Int))).sum = (sN f n : Int) := by
  unfold fnL
  induction n with
  | zero => rfl
  | succ n ih => rw [sides_succ, List.map_append, List.sum_append, ih, sN]; simp
theorem shares_sum {P : List Int} (p : Ppl P) (way : Int) (h : Nat) : (sharesL way P h).sum = h := by
  unfold sharesL; rw [sides_sum (shareN way P h), share_sum p]
theorem ppl_sum {P : List Int} (p : Ppl P) : P.sum = (sN (xs P) P.length : Int) := by
  have e : P = fnL P.length (fun i => ((xs P i.toNat : Nat) : Int)) := by
    have e2 : fnL P.length (fun i => ((xs P i.toNat : Nat) : Int)) = (sides P.length).map (fun z => P.getD z.toNat 0) := by
      unfold fnL
      apply List.map_congr_left
      intro z hz
      have hz := mem_sides.1 hz
      exact (p.at_ (i := z.toNat) (by omega)).1.symm
    rw [e2]; exact as_map P
  have h := sides_sum (xs P) P.length
  rw [← e] at h
  exact h
end Go.Proofs.Ytedllchlhdjanaa

/-
  Several of our texts, one behind the other, each under its own words; no condition but those that each states.
-/
import Derived.Test.YtimjepakdldacaaProg
import Derived.Test.YtimjepakdldacaaPureA
import Derived.WalkKit
/-
  What a call of the program answers, in three shapes: an error, a list, a matrix.
-/
namespace Go.Proofs.Ytimjepakdldacaa
open Go.RowKit Fm
set_option linter.unusedVariables false

/-- An error: an empty slice and the error's number. -/
def ErrOut (r : Int) (w : World) (e : Ending) (w' : World) : Prop := ∃ a c, e = .returned (.tuple #[.slice a 0 c, .int .i64 r]) ∧ Below w.heap.size w w'
/-- An error: nil and the error's number. -/
def ErrNil (r : Int) (w : World) (e : Ending) (w' : World) : Prop := e = .returned (.tuple #[.slice none 0 0, .int .i64 r]) ∧ Below w.heap.size w w'
theorem ErrNil.out {r : Int} {w w' : World} {e : Ending} (h : ErrNil r w e w') : ErrOut r w e w' := ⟨none, 0, h.1, h.2⟩
/-- A list, and no error. -/
def IntsOut (l : List Int) (w : World) (e : Ending) (w' : World) : Prop := ∃ a c, e = .returned (.tuple #[.slice a l.length c, .int .i64 0]) ∧ l.length ≤ c ∧ c ≤ maxLen ∧ Rd w' w'.heap.size a l.length l ∧ Below w.heap.size w w'
/-- A matrix, and no error. -/
def MatOut (M : List (List Int)) (w : World) (e : Ending) (w' : World) : Prop := ∃ a c, e = .returned (.tuple #[.slice a M.length c, .int .i64 0]) ∧ M.length ≤ c ∧ c ≤ maxLen ∧ RdR w' w'.heap.size a M.length M ∧ Below w.heap.size w w'

/-- A list in a row of the call's own, and no error. -/
def OwnOut (l : List Int) (w : World) (e : Ending) (w' : World) : Prop := ∃ v, e = .returned (.tuple #[v, .int .i64 0]) ∧ w'.ownsRow w.heap.size 3 1 v l.length (I l) ∧ Below w.heap.size w w'
theorem OwnOut.ints {l : List Int} {w w' : World} {e : Ending} (h : OwnOut l w e w') : IntsOut l w e w' := by
  obtain ⟨v, rfl, ho, hb⟩ := h
  obtain ⟨a, c, rfl, h1, h2⟩ := own_slice ho
  exact ⟨a, c, rfl, h1, h2, Rd.of_own ho, hb⟩
/-- A matrix of the call's own, and no error. -/
def MatOwn (M : List (List Int)) (w : World) (e : Ending) (w' : World) : Prop := ∃ v, e = .returned (.tuple #[v, .int .i64 0]) ∧ Mat w' w.heap.size 27 3 v M ∧ Below w.heap.size w w'
theorem MatOwn.mat {M : List (List Int)} {w w' : World} {e : Ending} (h : MatOwn M w e w') : MatOut M w e w' := by
  obtain ⟨v, rfl, hm, hb⟩ := h
  obtain ⟨vs, h1, h2, h3⟩ := hm
  rcases h1.2 with ⟨e1, e2⟩ | ⟨g, cap, cur, e1, _, _, h4, h5, _⟩
  · obtain rfl := List.eq_nil_of_length_eq_zero e2
    subst e1
    exact ⟨none, 0, rfl, Nat.le_refl _, by unfold maxLen; omega, RdR.nil_, hb⟩
  · subst e1
    exact ⟨_, cap, rfl, h4, h5, RdR.of_own h1 rfl h2, hb⟩

theorem ext_trans {w w1 w2 : World} (h : Below w.heap.size w w1) (h2 : Below w1.heap.size w1 w2) : Below w.heap.size w w2 := h.trans (h2.mono h.size)
theorem ext_drewN {w w1 : World} (h : Below w.heap.size w w1) (k : Nat) : Below w.heap.size w (w1.drewN k) := below_drewN h k
theorem rd_ext {w w1 : World} {a : Option Addr} {n : Nat} {l : List Int} (h : Rd w w.heap.size a n l) (hb : Below w.heap.size w w1) : Rd w1 w1.heap.size a n l := (h.below hb (Nat.le_refl _)).more hb.size
theorem rdr_ext {w w1 : World} {a : Option Addr} {n : Nat} {L : List (List Int)} (h : RdR w w.heap.size a n L) (hb : Below w.heap.size w w1) : RdR w1 w1.heap.size a n L := (h.below hb (Nat.le_refl _)).more hb.size
theorem own_sliceV {w : World} {B n : Nat} {e : TypeId} {v : Value} {xs : List Value} (h : w.ownsRow B e 1 v n xs) : ∃ a c, v = .slice a n c ∧ n ≤ c ∧ c ≤ maxLen ∧ (a = none → c = 0) ∧ (0 < n → ∃ g, a = some ⟨g, 0, none⟩ ∧ B ≤ g) := by
  rcases h.2 with ⟨rfl, rfl⟩ | ⟨g, cap, cur, rfl, h0, _, h1, h2, _⟩
  · exact ⟨none, 0, rfl, Nat.le_refl _, by unfold maxLen; omega, fun _ => rfl, fun h => absurd h (by omega)⟩
  · exact ⟨_, cap, rfl, h1, h2, (fun h => by cases h), fun _ => ⟨g, rfl, h0⟩⟩
theorem rdr_cut {w : World} {B n : Nat} {a : Option Addr} {L : List (List Int)} (h : RdR w B a n L) {k : Nat} (hk : k ≤ n) : RdR w B a k (L.take k) := by
  refine ⟨by rw [List.length_take, h.1]; omega, fun hk0 => ?_⟩
  obtain ⟨b, o, e, hb, hc⟩ := h.2 (by omega)
  refine ⟨b, o, e, hb, fun j hj => ?_⟩
  have e1 : (L.take k).getD j [] = L.getD j [] := by simp [List.getD_eq_getElem?_getD, hj]
  rw [e1]
  exact hc j (by omega)
end Go.Proofs.Ytimjepakdldacaa

/-
  What the contracts of package duel say, each as a statement of its own: the laws above are proved from them; they are proved of the package's own text apart.
-/
namespace Go.Proofs.Ytimjepakdldacaa
open Go.RowKit Fm
set_option linter.unusedVariables false

/-- A table, right or wrong, that a machine can hold. -/
def TabIn (w : World) (a : Option Addr) (m : Nat) (M : List (List Int)) : Prop := ∃ B, B ≤ w.heap.size ∧ RdR w B a m M ∧ m ≤ 17592186044416 ∧ ∀ l ∈ M, l.length ≤ 17592186044416
theorem TabIn.below {w w' : World} {a : Option Addr} {m : Nat} {M : List (List Int)} (h : TabIn w a m M) (hb : Below w.heap.size w w') : TabIn w' a m M := by
  obtain ⟨B, h1, h2, h3⟩ := h
  exact ⟨B, Nat.le_trans h1 hb.size, h2.below hb h1, h3⟩
theorem TabIn.drewN {w : World} {a : Option Addr} {m : Nat} {M : List (List Int)} (h : TabIn w a m M) (k : Nat) : TabIn (w.drewN k) a m M := h










end Go.Proofs.Ytimjepakdldacaa

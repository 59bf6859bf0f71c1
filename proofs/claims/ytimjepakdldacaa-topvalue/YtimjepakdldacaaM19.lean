/-
  Several of our texts, one behind the other, each under its own words; no condition but those that each states.
-/
import Derived.Test.YtimjepakdldacaaM2
import Derived.Test.YtimjepakdldacaaCoreMath
import Derived.Test.YtimjepakdldacaaProg
import Derived.Test.YtimjepakdldacaaPureA
import Derived.WalkKit
import Derived.KernelRfl
import Derived.Laws.NewBlocks
/-
  What the contracts of package worth say, each as a statement of its own: the laws above are proved from them; they are proved of the package's own text apart.
-/
namespace Go.Proofs.Ytimjepakdldacaa
open Go.RowKit Fm
set_option linter.unusedVariables false

def val (V : List Int) (S : Nat) : Int := V.getD S 0
/-- What worth.Check answers. -/
def gchk (n : Int) (V : List Int) : Int := if n < 1 ∨ 6 < n then 1 else if V.length ≠ 2 ^ n.toNat then 3 else if ¬ (∀ x ∈ V, -1000000 ≤ x ∧ x ≤ 1000000) then 1 else if V.getD 0 0 ≠ 0 then 3 else 0
/-- A game that is right. -/
structure Gm (n : Nat) (V : List Int) : Prop where
  pos : 1 ≤ n
  le : n ≤ 6
  len : V.length = 2 ^ n
  bd : ∀ x ∈ V, -1000000 ≤ x ∧ x ≤ 1000000
  zero : V.getD 0 0 = 0
theorem gchk_ok {n : Int} {V : List Int} (h : gchk n V = 0) : ∃ k : Nat, n = k ∧ Gm k V := by
  unfold gchk at h
  by_cases h1 : n < 1 ∨ 6 < n
  · rw [if_pos h1] at h; cases h
  · rw [if_neg h1] at h
    by_cases h2 : V.length ≠ 2 ^ n.toNat
    · rw [if_pos h2] at h; cases h
    · rw [if_neg h2] at h
      by_cases h3 : ∀ x ∈ V, -1000000 ≤ x ∧ x ≤ 1000000
      · rw [if_neg (by simpa using h3)] at h
        by_cases h4 : V.getD 0 0 ≠ 0
        · rw [if_pos h4] at h; cases h
        · exact ⟨n.toNat, by omega, ⟨by omega, by omega, by simpa using h2, h3, by simpa using h4⟩⟩
      · rw [if_pos h3] at h; cases h
theorem Gm.chk {n : Nat} {V : List Int} (g : Gm n V) : gchk n V = 0 := by
  have h1 := g.pos
  have h2 := g.le
  unfold gchk
  rw [if_neg (by omega), if_neg (by rw [Int.toNat_natCast]; simpa using g.len), if_neg (by simpa using g.bd), if_neg (by simpa using g.zero)]
theorem Gm.val_bd {n : Nat} {V : List Int} (g : Gm n V) (S : Nat) : -1000000 ≤ val V S ∧ val V S ≤ 1000000 := by
  unfold val
  by_cases h : S < V.length
  · exact g.bd _ (getD_mem V S h)
  · rw [List.getD_eq_getElem?_getD, List.getElem?_eq_none (by omega)]
    decide
theorem pow6 {n : Nat} (h : n ≤ 6) : 2 ^ n ≤ 64 := Nat.pow_le_pow_right (by omega) h
theorem pow1 (n : Nat) : 1 ≤ 2 ^ n := Nat.two_pow_pos n

def shL (n : Nat) (V : List Int) : List Int := fnL n (shG (val V) n)
def rowL (n : Nat) (V p : List Int) : List Int := fnL n (rowG (val V) n p)
theorem shL_len (n : Nat) (V : List Int) : (shL n V).length = n := fnL_len _ _
theorem rowL_len (n : Nat) (V p : List Int) : (rowL n V p).length = n := fnL_len _ _
theorem shL_at {n : Nat} (V : List Int) {i : Nat} (hi : i < n) : (shL n V).getD i 0 = shG (val V) n i := fnL_at n _ hi
theorem rowL_at {n : Nat} (V p : List Int) {i : Nat} (hi : i < n) : (rowL n V p).getD i 0 = rowG (val V) n p i := fnL_at n _ hi
theorem row_bd {n : Nat} {V : List Int} (g : Gm n V) (p : List Int) (x : Int) : -2000000 ≤ rowG (val V) n p x ∧ rowG (val V) n p x ≤ 2000000 := by
  unfold rowG
  have h1 := g.val_bd (preP b2 n p x + 2 ^ x.toNat)
  have h2 := g.val_bd (preP b2 n p x)
  omega
theorem sh_bd {n : Nat} {V : List Int} (g : Gm n V) (x : Int) : -1440000000 ≤ shG (val V) n x ∧ shG (val V) n x ≤ 1440000000 := by
  have h := tL_bd (L := allO n) (φ := fun p => rowG (val V) n p x) (B := 2000000) (fun p _ => row_bd g p x)
  have hl := allO_le g.pos g.le
  unfold shG
  omega
theorem shL_bd {n : Nat} {V : List Int} (g : Gm n V) : ∀ x ∈ shL n V, -1440000000 ≤ x ∧ x ≤ 1440000000 := fun x hx => by
  unfold shL fnL at hx
  rw [List.mem_map] at hx
  obtain ⟨y, _, rfl⟩ := hx
  exact sh_bd g y
theorem rowL_bd {n : Nat} {V : List Int} (g : Gm n V) (p : List Int) : ∀ x ∈ rowL n V p, -2000000 ≤ x ∧ x ≤ 2000000 := fun x hx => by
  unfold rowL fnL at hx
  rw [List.mem_map] at hx
  obtain ⟨y, _, rfl⟩ := hx
  exact row_bd g p y
theorem shL_sum (n : Nat) (V : List Int) : (shL n V).sum = tI (sides n) (shG (val V) n) := rfl
theorem rowL_sum (n : Nat) (V p : List Int) : (rowL n V p).sum = tI (sides n) (rowG (val V) n p) := rfl

/-- The first k of f, zeros behind. -/
def filL (N : Nat) (f : Nat → Int) (k : Nat) : List Int := fnL N (fun y => if y.toNat < k then f y.toNat else 0)
def funL (N : Nat) (f : Nat → Int) : List Int := fnL N (fun y => f y.toNat)
theorem filL_zero (N : Nat) (f : Nat → Int) : List.replicate N 0 = filL N f 0 := by
  rw [zeroL]
  exact fnL_congr N (fun j hj => by rw [if_neg (by omega)])
theorem filL_set {N : Nat} (f : Nat → Int) {k : Nat} (hk : k < N) : (filL N f k).set k (f k) = filL N f (k + 1) := by
  unfold filL
  rw [fnL_set N _ hk]
  refine fnL_congr N (fun j hj => ?_)
  by_cases e : (j : Int) = (k : Int)
  · have : j = k := by omega
    subst this
    simp
  · rw [if_neg e]
    simp only [Int.toNat_natCast]
    by_cases q : j < k
    · rw [if_pos q, if_pos (by omega)]
    · rw [if_neg q, if_neg (by omega)]
theorem filL_end (N : Nat) (f : Nat → Int) : filL N f N = funL N f := fnL_congr N (fun j hj => by rw [if_pos (by simpa using hj)])
theorem funL_len (N : Nat) (f : Nat → Int) : (funL N f).length = N := fnL_len N _
theorem funL_at {N : Nat} (f : Nat → Int) {S : Nat} (h : S < N) : val (funL N f) S = f S := by unfold val funL; rw [fnL_at _ _ h]; simp
theorem funL_gm {n : Nat} (h1 : 1 ≤ n) (h6 : n ≤ 6) {f : Nat → Int} (hb : ∀ S, S < 2 ^ n → -1000000 ≤ f S ∧ f S ≤ 1000000) (h0 : f 0 = 0) : Gm n (funL (2 ^ n) f) := by
  refine ⟨h1, h6, funL_len _ f, fun x hx => ?_, ?_⟩
  · unfold funL fnL at hx
    rw [List.mem_map] at hx
    obtain ⟨y, hy, rfl⟩ := hx
    have := mem_sides.1 hy
    exact hb _ (by omega)
  · have := funL_at f (N := 2 ^ n) (S := 0) (pow1 n)
    unfold val at this
    rw [this, h0]
theorem shL_congr {n : Nat} {V W : List Int} (h : ∀ i, i < n → shG (val V) n i = shG (val W) n i) : shL n V = shL n W := fnL_congr n (fun j hj => h j hj)

/-- What worth.Row answers. -/
def rwchk (n : Int) (V row : List Int) : Int := if gchk n V ≠ 0 then gchk n V else if chk n row ≠ 0 then 3 else 0
/-- What worth.Holds answers. -/
def hdchk (n : Int) (V X : List Int) : Int := if gchk n V ≠ 0 then gchk n V else if (X.length : Int) ≠ n then 3 else if ¬ (∀ x ∈ X, -1000000000 ≤ x ∧ x ≤ 1000000000) then 1 else 0
def xI (X : List Int) (y : Int) : Int := X.getD y.toNat 0
def coreB (n : Nat) (V X : List Int) : Bool := ((List.range (2 ^ n)).all fun S => decide (val V S ≤ hI (xI X) n S)) && decide (hI (xI X) n (2 ^ n - 1) = val V (2 ^ n - 1))
def convB (n : Nat) (V : List Int) : Bool := (List.range (2 ^ n)).all fun a => (List.range (2 ^ n)).all fun b => decide (val V a + val V b ≤ val V (a ||| b) + val V (a &&& b))
def holdA (n : Int) (V X : List Int) : Bool := decide (hdchk n V X = 0) && coreB n.toNat V X
def roundA (n : Int) (V : List Int) : Bool := decide (gchk n V = 0) && convB n.toNat V
theorem coreB_iff {n : Nat} {V X : List Int} : coreB n V X = true ↔ coreG (val V) n (xI X) := by
  unfold coreB coreG
  simp only [Bool.and_eq_true, List.all_eq_true, List.mem_range, decide_eq_true_eq]
theorem convB_iff {n : Nat} {V : List Int} : convB n V = true ↔ convG (val V) n := by
  unfold convB convG
  simp only [List.all_eq_true, List.mem_range, decide_eq_true_eq]
  exact ⟨fun h a b ha hb => h a ha b hb, fun h a ha b hb => h a b ha hb⟩

/-- A list of ints that a machine can hold. -/
def LstG (w : World) (a : Option Addr) (m c : Nat) (l : List Int) : Prop := Rd w w.heap.size a m l ∧ m ≤ 17592186044416 ∧ m ≤ c

def WCheck : Prop := ∀ (n : Int) (a : Option Addr) (m c : Nat) (V : List Int) (w : World), LstG w a m c V →
    Calls Try.prog 63 #[.int .i64 n, .slice a m c] w fun e w' => e = .returned (.int .i64 (gchk n V)) ∧ Below w.heap.size w w'

def WShareE : Prop := ∀ (n : Int) (a : Option Addr) (m c : Nat) (V : List Int) (w : World), LstG w a m c V → gchk n V ≠ 0 →
    Calls Try.prog 49 #[.int .i64 n, .slice a m c] w (ErrOut (gchk n V) w)

def WShare : Prop := ∀ (n : Nat) (a : Option Addr) (m c : Nat) (V : List Int) (w : World), LstG w a m c V → Gm n V →
    Calls Try.prog 49 #[.int .i64 n, .slice a m c] w (OwnOut (shL n V) w)





/-- What is handed back, without an error. -/
def WoOut (n : Nat) (l : List Int) (w : World) (e : Ending) (w' : World) : Prop := ∃ a c, e = .returned (.tuple #[.slice a n c, .int .i64 0]) ∧ n ≤ c ∧ Rd w' w'.heap.size a n l ∧ Below w.heap.size w w'

/-- The same, in memory of the call's own. -/
def WoNew (n : Nat) (l : List Int) (w : World) (e : Ending) (w' : World) : Prop := ∃ a c, e = .returned (.tuple #[.slice a n c, .int .i64 0]) ∧ n ≤ c ∧ Rd w' w'.heap.size a n l ∧ Below w.heap.size w w' ∧ ∀ x, a = some x → w.heap.size ≤ x.block
theorem WoNew.of_own {n : Nat} {l : List Int} {w w' : World} {e : Ending} (hl : l.length = n) (h : OwnOut l w e w') : WoNew n l w e w' := by
  obtain ⟨v, rfl, ho, hb⟩ := h
  obtain ⟨a, c, rfl, h1, h2⟩ := own_slice ho
  subst hl
  exact ⟨a, c, rfl, h1, Rd.of_own ho, hb, fun x hx => (ho.lt x.block (by rw [hx]; rfl)).1⟩

theorem share_useW (sS : WShare) {n N : Nat} {V : List Int} (g : Gm n V) (hN : V.length = N) (a : Option Addr) (c : Nat) (hc : N ≤ c) (W : World) (hr : Rd W W.heap.size a N V) :
    Calls Try.prog 49 #[.int .i64 n, .slice a N c] W (WoOut n (shL n V) W) := by
  have h6 := pow6 g.le
  have hl := g.len
  refine (sS n a N c V W ⟨hr, by omega, hc⟩ g).mono ?_
  intro e w' h
  obtain ⟨a, c, rfl, q1, _, r, hb⟩ := h.ints
  rw [shL_len] at r q1 ⊢
  exact ⟨a, c, rfl, q1, r, hb⟩



/-
  plumekeep.good returns true of errors that are all 0; nothing is written.
-/
namespace Go.Proofs.Ytimjepakdldacaa
open Go.RowKit Fm
set_option linter.unusedVariables false

set_option maxHeartbeats 400000 in
set_option maxRecDepth 100000 in
theorem good1_zero (w : World) : Calls Try.prog 58 #[.int .i64 0] w fun e w' => e = .returned (.bool false) ∧ w = w' := by
  go_enter Try.func58, Try.ntmps58
  go_wp2
  go_ret
  exact ⟨rfl, rfl⟩

set_option maxHeartbeats 400000 in
set_option maxRecDepth 100000 in
theorem indexFunc_zero (b o n c : Nat) (w : World) (hn : n ≤ 1000) (hc : ∀ j, j < n → w.cell? ⟨b, o + j, none⟩ = some (.int .i64 0)) :
    Calls Try.prog 67 #[.slice (some ⟨b, o, none⟩) n c, .func (.func 58) #[] #[]] w fun e w' => e = .returned (.int .i64 (-1)) ∧ w = w' := by
  have HC := Lib.hid hc
  clear hc
  go_enter Try.func67, Try.ntmps67
  go_wp2
  go_loop [8] (fun i => ∃ j : Nat, j ≤ n ∧ i = .int .i64 j) (fun i => n - (intOf i).toNat)
  case atStart => exact ⟨0, Nat.zero_le _, rfl⟩
  case round =>
    obtain ⟨j, hj, rfl⟩ := hrel
    by_cases hlt : j < n
    · have hcj := HC.out j hlt
      go_wp2_with fail
      refine (good1_zero w).mono ?_
      rintro e w' ⟨rfl, rfl⟩
      go_wp2
      go_round
      case rel => exact ⟨j + 1, by omega, by go_num⟩
      case measure => simp [intOf]; omega
    · go_wp2
      go_ret
      exact ⟨rfl, rfl⟩

set_option maxHeartbeats 400000 in
set_option maxRecDepth 100000 in
theorem good_zero (b o n c : Nat) (w : World) (hn : n ≤ 1000) (hc : ∀ j, j < n → w.cell? ⟨b, o + j, none⟩ = some (.int .i64 0)) :
    Calls Try.prog 37 #[.slice (some ⟨b, o, none⟩) n c] w fun e w' => e = .returned (.bool true) ∧ w = w' := by
  have HC := Lib.hid hc
  clear hc
  have hcf : Calls Try.prog 57 #[.slice (some ⟨b, o, none⟩) n c, .func (.func 58) #[] #[]] w fun e w' => e = .returned (.bool false) ∧ w = w' := by
    go_enter Try.func57, Try.ntmps57
    go_wp2_with fail
    refine (indexFunc_zero b o n c w hn HC.out).mono ?_
    rintro e w' ⟨rfl, rfl⟩
    go_wp2
    go_ret
    exact ⟨rfl, rfl⟩
  have HF := Lib.hid hcf
  clear hcf
  go_enter Try.func37, Try.ntmps37
  go_wp2_with fail
  refine HF.out.mono ?_
  rintro e w' ⟨rfl, rfl⟩
  go_wp2
  go_ret
  exact ⟨rfl, rfl⟩
end Go.Proofs.Ytimjepakdldacaa

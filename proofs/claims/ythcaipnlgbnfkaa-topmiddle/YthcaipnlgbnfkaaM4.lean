/-
  Several of our texts, one behind the other, each under its own words; no condition but those that each states.
-/
import Derived.Test.YthcaipnlgbnfkaaM3
import Derived.Test.YthcaipnlgbnfkaaPureA
import Derived.Test.YthcaipnlgbnfkaaProg
import Derived.Deep.AppendLies
import Derived.Deep.DeepMust
import Derived.OwnWalk
import Derived.WalkKit
import Derived.KernelRfl
import Derived.Laws.NewBlocks
import Derived.Deep.RegionLaw
/-
  An order along a line that is laid from its first to both sides; how many orders are along a line: lists of ints alone, no Go text.
-/
namespace Fm
set_option linter.unusedVariables false

/-- What plumekeep.along has laid after i steps: the first of the line that is in it, the first behind it that is not, the order. -/
def alAt (line l : List Int) : Nat := if 0 < l.length then ((l.getD 0 0) % (line.length : Int)).toNat else 0
def alLeft (line l : List Int) (lo hi i : Nat) : Bool := decide (line.length ≤ hi) || (decide (0 < lo) && decide (i < l.length) && decide ((l.getD i 0).tmod 2 = 0))
def alTo (line l : List Int) : Nat → Nat × Nat × List Int
  | 0 => (alAt line l, alAt line l + 1, [line.getD (alAt line l) 0])
  | i + 1 => if alLeft line l (alTo line l i).1 (alTo line l i).2.1 (i + 1) = true
      then ((alTo line l i).1 - 1, (alTo line l i).2.1, (alTo line l i).2.2 ++ [line.getD ((alTo line l i).1 - 1) 0])
      else ((alTo line l i).1, (alTo line l i).2.1 + 1, (alTo line l i).2.2 ++ [line.getD (alTo line l i).2.1 0])
/-- The order that plumekeep.along lays. -/
def alongL (line l : List Int) : List Int := (alTo line l (line.length - 1)).2.2

theorem pos_snoc_old {q : List Int} {x y : Int} (hxy : x ≠ y) : pos (q ++ [x]) y = pos q y := by
  unfold pos
  rw [List.length_append, List.length_singleton, atTo]
  have e : (q ++ [x]).getD q.length 0 = x := by rw [getD_get (by simp)]; simp
  rw [e, if_neg hxy]
  have : ∀ m, m ≤ q.length → atTo (q ++ [x]) m y = atTo q m y := by
    intro m
    induction m with
    | zero => intro _; rfl
    | succ m ih =>
      intro hm
      rw [atTo, atTo, ih (by omega)]
      have e2 : (q ++ [x]).getD m 0 = q.getD m 0 := by rw [getD_get (by simp; omega), getD_get (by omega), List.getElem_append_left (by omega)]
      rw [e2]
  exact this _ (Nat.le_refl _)
theorem pos_snoc_new (q : List Int) (x : Int) : pos (q ++ [x]) x = q.length := by
  unfold pos
  rw [List.length_append, List.length_singleton, atTo]
  have e : (q ++ [x]).getD q.length 0 = x := by rw [getD_get (by simp)]; simp
  rw [e, if_pos rfl]
theorem pos_lt {q : List Int} (hq : q.Nodup) {y : Int} (hy : y ∈ q) : pos q y < q.length := by
  obtain ⟨k, hk, _, h⟩ := pos_mem hq hy
  omega
/-- What holds on the way: it has the line from lo up to hi, and is along it. -/
structure AlInv (line : List Int) (lo hi : Nat) (q : List Int) : Prop where
  lt : lo < hi
  le : hi ≤ line.length
  len : q.length = hi - lo
  nd : q.Nodup
  mem : ∀ x, x ∈ q ↔ ∃ j, lo ≤ j ∧ j < hi ∧ line.getD j 0 = x
  al : ∀ i j k, lo ≤ i → i < j → j < k → k < hi → ¬ (pos q (line.getD i 0) < pos q (line.getD j 0) ∧ pos q (line.getD k 0) < pos q (line.getD j 0))
section
variable {line l : List Int} {n : Nat}
theorem line_inj (hnd : line.Nodup) {i j : Nat} (hi : i < line.length) (hj : j < line.length) (h : line.getD i 0 = line.getD j 0) : i = j := by
  have a := pos_idx hnd hi
  have b := pos_idx hnd hj
  rw [h, b] at a
  omega
theorem alInv_left (hnd : line.Nodup) {lo hi : Nat} {q : List Int} (h : AlInv line lo hi q) (h0 : 0 < lo) : AlInv line (lo - 1) hi (q ++ [line.getD (lo - 1) 0]) := by
  have h1 := h.lt
  have h2 := h.le
  have h3 := h.len
  have hnew : line.getD (lo - 1) 0 ∉ q := fun hm => by
    obtain ⟨j, a, b, c⟩ := (h.mem _).1 hm
    have := line_inj hnd (by omega) (by omega) c
    omega
  have old : ∀ m, lo ≤ m → m < hi → pos (q ++ [line.getD (lo - 1) 0]) (line.getD m 0) = pos q (line.getD m 0) := fun m a b => pos_snoc_old (fun e => by have := line_inj hnd (by omega) (by omega) e; omega)
  have inq : ∀ m, lo ≤ m → m < hi → pos q (line.getD m 0) < q.length := fun m a b => pos_lt h.nd ((h.mem _).2 ⟨m, a, b, rfl⟩)
  refine ⟨by omega, h2, by rw [List.length_append, List.length_singleton]; omega, ?_, fun x => ?_, fun i j k a b c d => ?_⟩
  · rw [List.nodup_append]
    exact ⟨h.nd, by simp, fun a ha b hb e => hnew (by rw [List.mem_singleton] at hb; subst hb; subst e; exact ha)⟩
  · rw [List.mem_append, List.mem_singleton]
    constructor
    · rintro (hx | hx)
      · obtain ⟨j, a, b, c⟩ := (h.mem _).1 hx
        exact ⟨j, by omega, b, c⟩
      · exact ⟨lo - 1, by omega, by omega, hx.symm⟩
    · rintro ⟨j, a, b, c⟩
      by_cases e : j = lo - 1
      · subst e; exact .inr c.symm
      · exact .inl ((h.mem _).2 ⟨j, by omega, b, c⟩)
  · by_cases e : i = lo - 1
    · subst e
      rw [pos_snoc_new, old j (by omega) (by omega)]
      have := inq j (by omega) (by omega)
      omega
    · rw [old i (by omega) (by omega), old j (by omega) (by omega), old k (by omega) (by omega)]
      exact h.al i j k (by omega) b c d
theorem alInv_right (hnd : line.Nodup) {lo hi : Nat} {q : List Int} (h : AlInv line lo hi q) (h0 : hi < line.length) : AlInv line lo (hi + 1) (q ++ [line.getD hi 0]) := by
  have h1 := h.lt
  have h3 := h.len
  have hnew : line.getD hi 0 ∉ q := fun hm => by
    obtain ⟨j, a, b, c⟩ := (h.mem _).1 hm
    have := line_inj hnd (by omega) (by omega) c
    omega
  have old : ∀ m, lo ≤ m → m < hi → pos (q ++ [line.getD hi 0]) (line.getD m 0) = pos q (line.getD m 0) := fun m a b => pos_snoc_old (fun e => by have := line_inj hnd (by omega) (by omega) e; omega)
  have inq : ∀ m, lo ≤ m → m < hi → pos q (line.getD m 0) < q.length := fun m a b => pos_lt h.nd ((h.mem _).2 ⟨m, a, b, rfl⟩)
  refine ⟨by omega, by omega, by rw [List.length_append, List.length_singleton]; omega, ?_, fun x => ?_, fun i j k a b c d => ?_⟩
  · rw [List.nodup_append]
    exact ⟨h.nd, by simp, fun a ha b hb e => hnew (by rw [List.mem_singleton] at hb; subst hb; subst e; exact ha)⟩
  · rw [List.mem_append, List.mem_singleton]
    constructor
    · rintro (hx | hx)
      · obtain ⟨j, a, b, c⟩ := (h.mem _).1 hx
        exact ⟨j, by omega, by omega, c⟩
      · exact ⟨hi, by omega, by omega, hx.symm⟩
    · rintro ⟨j, a, b, c⟩
      by_cases e : j = hi
      · subst e; exact .inr c.symm
      · exact .inl ((h.mem _).2 ⟨j, a, by omega, c⟩)
  · by_cases e : k = hi
    · subst e
      rw [pos_snoc_new, old j (by omega) (by omega)]
      have := inq j (by omega) (by omega)
      omega
    · rw [old i (by omega) (by omega), old j (by omega) (by omega), old k (by omega) (by omega)]
      exact h.al i j k a b c (by omega)
theorem alAt_lt (hn : 0 < line.length) : alAt line l < line.length := by
  unfold alAt
  split
  · have := Int.emod_nonneg (l.getD 0 0) (b := (line.length : Int)) (by omega)
    have := Int.emod_lt_of_pos (l.getD 0 0) (b := (line.length : Int)) (by omega)
    omega
  · exact hn
theorem alTo_inv (hnd : line.Nodup) (hn : 0 < line.length) (i : Nat) (hi : i < line.length) : AlInv line (alTo line l i).1 (alTo line l i).2.1 (alTo line l i).2.2 ∧ (alTo line l i).2.1 = (alTo line l i).1 + (i + 1) := by
  induction i with
  | zero =>
    have h := alAt_lt (l := l) hn
    rw [alTo]
    dsimp only
    refine ⟨⟨by omega, by omega, by simp, by simp, fun x => ?_, fun i j k a b c d => by omega⟩, by omega⟩
    rw [List.mem_singleton]
    constructor
    · intro e; exact ⟨_, Nat.le_refl _, by omega, e.symm⟩
    · rintro ⟨j, a, b, c⟩
      have : j = alAt line l := by omega
      subst this; exact c.symm
  | succ i ih =>
    obtain ⟨h1, h2⟩ := ih (by omega)
    rw [alTo]
    by_cases hc : alLeft line l (alTo line l i).1 (alTo line l i).2.1 (i + 1) = true
    · rw [if_pos hc]
      have h0 : 0 < (alTo line l i).1 := by
        unfold alLeft at hc
        rw [Bool.or_eq_true, Bool.and_eq_true, Bool.and_eq_true, decide_eq_true_eq, decide_eq_true_eq] at hc
        rcases hc with hc | hc
        · omega
        · exact hc.1.1
      exact ⟨alInv_left hnd h1 h0, by simp only; omega⟩
    · rw [if_neg hc]
      have h0 : (alTo line l i).2.1 < line.length := by
        unfold alLeft at hc
        rw [Bool.or_eq_true, decide_eq_true_eq] at hc
        omega
      exact ⟨alInv_right hnd h1 h0, by simp only; omega⟩
theorem alongL_spec (hl : line.Perm (sides n)) (h1 : 1 ≤ n) (l : List Int) : (alongL line l).Perm (sides n) ∧ Along line (alongL line l) := by
  have hln := perm_len hl
  have hnd := perm_nodup hl
  obtain ⟨h, e⟩ := alTo_inv (l := l) hnd (by omega) (line.length - 1) (by omega)
  have hle := h.le
  have e0 : (alTo line l (line.length - 1)).1 = 0 := by omega
  have e1 : (alTo line l (line.length - 1)).2.1 = line.length := by omega
  rw [e0, e1] at h
  refine ⟨?_, fun i j k a b c => decide_eq_false (h.al i j k (Nat.zero_le _) a b c)⟩
  refine isOrd_perm (by have := h.len; show (alTo line l (line.length - 1)).2.2.length = n; omega) ⟨fun x hx => ?_, h.nd⟩
  obtain ⟨j, _, hj, hx⟩ := (h.mem x).1 hx
  rw [← hx]
  exact mem_sides.1 (hl.mem_iff.1 (getD_mem line j hj))

/-- From the other end the same. -/
theorem along_rev {p : List Int} : alongB line.reverse p = alongB line p := by
  have h : ∀ m : List Int, Along m p → Along m.reverse p := fun m h i j k a b c => by
    rw [List.length_reverse] at c
    have e : ∀ x, x < m.length → m.reverse.getD x 0 = m.getD (m.length - 1 - x) 0 := fun x hx => by
      rw [getD_get (by rw [List.length_reverse]; exact hx), List.getElem_reverse, getD_get (by omega)]
    have := h.not_last (i := m.length - 1 - k) (j := m.length - 1 - j) (k := m.length - 1 - i) (by omega) (by omega) (by omega)
    unfold lastB
    rw [e i (by omega), e j (by omega), e k (by omega)]
    exact decide_eq_false (fun q => this ⟨q.2, q.1⟩)
  cases h1 : alongB line p with
  | true => exact along_iff.2 (h line (along_iff.1 h1))
  | false =>
    cases h2 : alongB line.reverse p with
    | false => rfl
    | true =>
      have := along_iff.2 (h _ (along_iff.1 h2))
      rw [List.reverse_reverse, h1] at this
      cases this
end
end Fm

/-
  What the contracts of package peak say, each as a statement of its own: the laws above are proved from them; they are proved of the package's own text apart.
-/
namespace Go.Proofs.Ythcaipnlgbnfkaa
open Go.RowKit Fm
set_option linter.unusedVariables false

/-- What peak.Along answers, whatever is handed in. -/
def achk (line p : List Int) : Int := if chk line.length line ≠ 0 then chk line.length line else chk line.length p
def alongA (line p : List Int) : Bool := decide (achk line p = 0) && alongB line p
/-- What peak.All answers, whatever is handed in. -/
def lchk (line : List Int) (V : List (List Int)) : Int := if chk line.length line ≠ 0 then chk line.length line else vchk line.length V
def allA (line : List Int) (V : List (List Int)) : Bool := decide (lchk line V = 0) && V.all (alongB line)
/-- What peak.Middle answers, whatever is handed in. -/
def mchk (line : List Int) (V : List (List Int)) : Int := if lchk line V ≠ 0 then lchk line V else if V.all (alongB line) = false then 3 else if V.length = 0 then 4 else 0
def midA (line : List Int) (V : List (List Int)) : Int := if mchk line V = 0 then midL line V else 0

theorem achk_bad {line p : List Int} (h : chk line.length line ≠ 0) : achk line p = chk line.length line := by unfold achk; rw [if_pos h]
theorem achk_ok {line p : List Int} (h : chk line.length line = 0) : achk line p = chk line.length p := by unfold achk; rw [if_neg (by simpa using h)]
theorem alongA_bad {line p : List Int} (h : achk line p ≠ 0) : alongA line p = false := by unfold alongA; rw [decide_eq_false h]; rfl
theorem alongA_ok {line p : List Int} (h : achk line p = 0) : alongA line p = alongB line p := by unfold alongA; rw [decide_eq_true h]; rfl
theorem lchk_bad {line : List Int} {V : List (List Int)} (h : chk line.length line ≠ 0) : lchk line V = chk line.length line := by unfold lchk; rw [if_pos h]
theorem lchk_ok {line : List Int} {V : List (List Int)} (h : chk line.length line = 0) : lchk line V = vchk line.length V := by unfold lchk; rw [if_neg (by simpa using h)]
theorem allA_bad {line : List Int} {V : List (List Int)} (h : lchk line V ≠ 0) : allA line V = false := by unfold allA; rw [decide_eq_false h]; rfl
theorem allA_ok {line : List Int} {V : List (List Int)} (h : lchk line V = 0) : allA line V = V.all (alongB line) := by unfold allA; rw [decide_eq_true h]; rfl
theorem mchk_bad {line : List Int} {V : List (List Int)} (h : lchk line V ≠ 0) : mchk line V = lchk line V := by unfold mchk; rw [if_pos h]
theorem mchk_form {line : List Int} {V : List (List Int)} (h : lchk line V = 0) (h2 : V.all (alongB line) = false) : mchk line V = 3 := by unfold mchk; rw [if_neg (by simpa using h), if_pos h2]
theorem mchk_none {line : List Int} {V : List (List Int)} (h : lchk line V = 0) (h2 : V.all (alongB line) = true) (h3 : V.length = 0) : mchk line V = 4 := by unfold mchk; rw [if_neg (by simpa using h), if_neg (by rw [h2]; simp), if_pos h3]
theorem mchk_ok {line : List Int} {V : List (List Int)} (h : lchk line V = 0) (h2 : V.all (alongB line) = true) (h3 : V.length ≠ 0) : mchk line V = 0 := by unfold mchk; rw [if_neg (by simpa using h), if_neg (by rw [h2]; simp), if_neg h3]
theorem midA_bad {line : List Int} {V : List (List Int)} (h : mchk line V ≠ 0) : midA line V = 0 := by unfold midA; rw [if_neg h]
theorem midA_ok {line : List Int} {V : List (List Int)} (h : mchk line V = 0) : midA line V = midL line V := by unfold midA; rw [if_pos h]
theorem chk_perms {line : List Int} (h : chk line.length line = 0) : line.Perm (sides line.length) ∧ 1 ≤ line.length ∧ line.length ≤ 6 := by
  obtain ⟨h1, h2, h3⟩ := chk_zero h
  exact ⟨isOrd_perm rfl h3, by omega, by omega⟩

/-- A list of ints that a machine can hold. -/
def LstIn (w : World) (a : Option Addr) (m c : Nat) (l : List Int) : Prop := Rd w w.heap.size a m l ∧ m ≤ 17592186044416 ∧ m ≤ c
theorem LstIn.below {w w' : World} {a : Option Addr} {m c : Nat} {l : List Int} (h : LstIn w a m c l) (hb : Below w.heap.size w w') : LstIn w' a m c l := ⟨rd_ext h.1 hb, h.2⟩

def PAlong : Prop := ∀ (al : Option Addr) (ml cl : Nat) (line : List Int) (ap : Option Addr) (mp cp : Nat) (p : List Int) (w : World), LstIn w al ml cl line → LstIn w ap mp cp p →
    Calls Try.prog 46 #[.slice al ml cl, .slice ap mp cp] w fun e w' => e = .returned (.tuple #[.bool (alongA line p), .int .i64 (achk line p)]) ∧ Below w.heap.size w w'

def PAll : Prop := ∀ (al : Option Addr) (ml cl : Nat) (line : List Int) (a : Option Addr) (m c : Nat) (V : List (List Int)) (w : World), LstIn w al ml cl line → TabIn w a m V →
    Calls Try.prog 85 #[.slice al ml cl, .slice a m c] w fun e w' => e = .returned (.tuple #[.bool (allA line V), .int .i64 (lchk line V)]) ∧ Below w.heap.size w w'

def PMiddle : Prop := ∀ (al : Option Addr) (ml cl : Nat) (line : List Int) (a : Option Addr) (m c : Nat) (V : List (List Int)) (w : World), LstIn w al ml cl line → TabIn w a m V →
    Calls Try.prog 47 #[.slice al ml cl, .slice a m c] w fun e w' => e = .returned (.tuple #[.int .i64 (midA line V), .int .i64 (mchk line V)]) ∧ Below w.heap.size w w'

end Go.Proofs.Ythcaipnlgbnfkaa

/-
  append of one slice of ints to a row of slices.
-/
namespace Go.Proofs.Ythcaipnlgbnfkaa
open Go.RowKit Fm
set_option linter.unusedVariables false

theorem info_ints : (Try.prog.info? 22).map (fun i => (i.zero, i.size, i.bytes)) = some (some (.slice none 0 0), 1, 24) := by kernel_rfl

/-- append(v, s), v a row of slices of the call's own, the slice s laid in a new block first. -/
theorem pushS {ops : Array Oper} {rest : List Oper} {o : Oper} {a : Act} {Q : Exit → Act → World → Prop} (hgd : o.guard = none) (s x : Operand)
    (ho : o.op = .call { callee := .builtin .append, args := #[s, x], argTypes := #[44, 44] })
    (w : World) (base : Nat) (v : Value) (n : Nat) (vs : List Value) (ya : Option Addr) (yn yc : Nat) (hs : a.eval s = v) (hx : a.eval x = .slice (some ⟨w.heap.size, 0, none⟩) 1 1)
    (hown : w.ownsRow base 22 1 v n vs) (hbase : base ≤ w.heap.size) (hn : n ≤ 1000000)
    (h : ∀ g cap w', w'.ownsRow base 22 1 (.slice (some ⟨g, 0, none⟩) (n + 1) cap) (n + 1) (vs ++ [.slice ya yn yc]) → w.grownBy w' v.ownBlock → (v.ownBlock = some g ∨ w.heap.size < g) → g < w'.heap.size →
      wpList Try.prog ops Q rest (a.put o.dst (.slice (some ⟨g, 0, none⟩) (n + 1) cap)) w') : wpList Try.prog ops Q (o :: rest) a (w.alloc (.cells #[.slice ya yn yc] 22)) := by
  obtain ⟨i0, hi, hz0, hz1, hz2⟩ := info_parts info_ints
  refine wpList_append_lies _ hgd s x 44 ho base 22 i0 (.slice none 0 0) 1 24 Try.underlying44 hi hz0 hz1 hz2 rfl (by decide) v n vs hs (hown.alloc _) ⟨w.heap.size, 0, none⟩ 1 1 [.slice ya yn yc] hx rfl ?_ ?_ (by decide) ?_ ?_ ?_ (w.heap.size + 1) (by simp) ?_
  · intro j u hj
    match j, hj with
    | 0, hj => simp at hj; subst hj; simp [Addr.add, World.cell?_alloc_new]
  · intro u hu; simp at hu; subst hu; rfl
  · unfold maxLen; omega
  · omega
  · simp; omega
  · intro g cap w' h1 h2 h3 h4
    refine h g cap w' h1 ?_ ?_ h4
    · refine ⟨h2.os, h2.tape, h2.output, Nat.le_trans (by simp) h2.size, fun k hk hne => ?_⟩
      rw [h2.block k (by simp; omega) hne]
      exact Below.heap_alloc w _ k hk
    · rcases h3 with h3 | h3
      · exact .inl h3
      · right; omega
/-- append(v, s), v a row of slices of the call's own, the slice s laid in a new block first. -/
theorem pushSB {ops : Array Oper} {rest : List Oper} {o : Oper} {a : Act} {Q : Exit → Act → World → Prop} (hgd : o.guard = none) (s x : Operand)
    (ho : o.op = .call { callee := .builtin .append, args := #[s, x], argTypes := #[44, 44] })
    (w : World) (base : Nat) (v : Value) (n : Nat) (vs : List Value) (ya : Option Addr) (yn yc : Nat) (hs : a.eval s = v) (hx : a.eval x = .slice (some ⟨w.heap.size, 0, none⟩) 1 1)
    (hown : w.ownsRow base 22 1 v n vs) (hbase : base ≤ w.heap.size) (hn : (n + 1) * 24 ≤ 140737488355328)
    (h : ∀ g cap w', w'.ownsRow base 22 1 (.slice (some ⟨g, 0, none⟩) (n + 1) cap) (n + 1) (vs ++ [.slice ya yn yc]) → w.grownBy w' v.ownBlock → (v.ownBlock = some g ∨ w.heap.size < g) → g < w'.heap.size →
      wpList Try.prog ops Q rest (a.put o.dst (.slice (some ⟨g, 0, none⟩) (n + 1) cap)) w') : wpList Try.prog ops Q (o :: rest) a (w.alloc (.cells #[.slice ya yn yc] 22)) := by
  obtain ⟨i0, hi, hz0, hz1, hz2⟩ := info_parts info_ints
  refine wpList_append_lies _ hgd s x 44 ho base 22 i0 (.slice none 0 0) 1 24 Try.underlying44 hi hz0 hz1 hz2 rfl (by decide) v n vs hs (hown.alloc _) ⟨w.heap.size, 0, none⟩ 1 1 [.slice ya yn yc] hx rfl ?_ ?_ (by decide) ?_ ?_ ?_ (w.heap.size + 1) (by simp) ?_
  · intro j u hj
    match j, hj with
    | 0, hj => simp at hj; subst hj; simp [Addr.add, World.cell?_alloc_new]
  · intro u hu; simp at hu; subst hu; rfl
  · unfold maxLen; omega
  · omega
  · simp; omega
  · intro g cap w' h1 h2 h3 h4
    refine h g cap w' h1 ?_ ?_ h4
    · refine ⟨h2.os, h2.tape, h2.output, Nat.le_trans (by simp) h2.size, fun k hk hne => ?_⟩
      rw [h2.block k (by simp; omega) hne]
      exact Below.heap_alloc w _ k hk
    · rcases h3 with h3 | h3
      · exact .inl h3
      · right; omega
end Go.Proofs.Ythcaipnlgbnfkaa

/-
  append of one slice to a row of slices of the call's own, as a step of a region that draws its order; a row of slices cut at its front.
-/
namespace Go.Proofs.Ythcaipnlgbnfkaa
open Go.RowKit Fm
set_option linter.unusedVariables false

theorem stepPushS {ops : Array Oper} {o : Oper} {a : Act} {K : Act → World → Prop} {Q : Exit → Act → World → Prop} {E : Prop} (hgd : o.guard = none) (s x : Operand)
    (ho : o.op = .call { callee := .builtin .append, args := #[s, x], argTypes := #[44, 44] })
    (w : World) (base : Nat) (v : Value) (n : Nat) (vs : List Value) (ya : Option Addr) (yn yc : Nat) (hs : a.eval s = v) (hx : a.eval x = .slice (some ⟨w.heap.size, 0, none⟩) 1 1)
    (hown : w.ownsRow base 22 1 v n vs) (hbase : base ≤ w.heap.size) (hn : n ≤ 1000000)
    (h : ∀ g cap w', w'.ownsRow base 22 1 (.slice (some ⟨g, 0, none⟩) (n + 1) cap) (n + 1) (vs ++ [.slice ya yn yc]) → w.grownBy w' v.ownBlock → (v.ownBlock = some g ∨ w.heap.size < g) → g < w'.heap.size →
      K (a.put o.dst (.slice (some ⟨g, 0, none⟩) (n + 1) cap)) w') : if Region.wanted o (yielded ops a.tmps) = true then Oper.wp Try.prog o a (w.alloc (.cells #[.slice ya yn yc] 22)) K Q else E := by
  obtain ⟨i0, hi, hz0, hz1, hz2⟩ := info_parts info_ints
  refine step_append_lies _ hgd s x 44 ho base 22 i0 (.slice none 0 0) 1 24 Try.underlying44 hi hz0 hz1 hz2 rfl (by decide) v n vs hs (hown.alloc _) ⟨w.heap.size, 0, none⟩ 1 1 [.slice ya yn yc] hx rfl ?_ ?_ (by decide) ?_ ?_ ?_ (w.heap.size + 1) (by simp) ?_
  · intro j u hj
    match j, hj with
    | 0, hj => simp at hj; subst hj; simp [Addr.add, World.cell?_alloc_new]
  · intro u hu; simp at hu; subst hu; rfl
  · unfold maxLen; omega
  · omega
  · simp; omega
  · intro g cap w' h1 h2 h3 h4
    refine h g cap w' h1 ?_ ?_ h4
    · refine ⟨h2.os, h2.tape, h2.output, Nat.le_trans (by simp) h2.size, fun k hk hne => ?_⟩
      rw [h2.block k (by simp; omega) hne]
      exact Below.heap_alloc w _ k hk
    · rcases h3 with h3 | h3
      · exact .inl h3
      · right; omega
theorem stepPushSb {ops : Array Oper} {o : Oper} {a : Act} {K : Act → World → Prop} {Q : Exit → Act → World → Prop} {E : Prop} (hgd : o.guard = none) (s x : Operand)
    (ho : o.op = .call { callee := .builtin .append, args := #[s, x], argTypes := #[44, 44] })
    (w : World) (base : Nat) (v : Value) (n : Nat) (vs : List Value) (ya : Option Addr) (yn yc b : Nat) (hb : b = w.heap.size) (hs : a.eval s = v) (hx : a.eval x = .slice (some ⟨b, 0, none⟩) 1 1)
    (hown : w.ownsRow base 22 1 v n vs) (hbase : base ≤ w.heap.size) (hn : n ≤ 1000000)
    (h : ∀ g cap w', w'.ownsRow base 22 1 (.slice (some ⟨g, 0, none⟩) (n + 1) cap) (n + 1) (vs ++ [.slice ya yn yc]) → w.grownBy w' v.ownBlock → (v.ownBlock = some g ∨ w.heap.size < g) → g < w'.heap.size →
      K (a.put o.dst (.slice (some ⟨g, 0, none⟩) (n + 1) cap)) w') : if Region.wanted o (yielded ops a.tmps) = true then Oper.wp Try.prog o a (w.alloc (.cells #[.slice ya yn yc] 22)) K Q else E := by
  subst hb
  exact stepPushS hgd s x ho w base v n vs ya yn yc hs hx hown hbase hn h
theorem rdr_drop {w : World} {B b o n : Nat} {L : List (List Int)} (h : RdR w B (some ⟨b, o, none⟩) n L) {k : Nat} (hk : k < n) : RdR w B (some ⟨b, o + k, none⟩) (n - k) (L.drop k) := by
  refine ⟨by rw [List.length_drop, h.1], fun _ => ?_⟩
  obtain ⟨b', o', e, hb, hc⟩ := h.2 (by omega)
  injection e with e; injection e with e1 e2; subst e1; subst e2
  refine ⟨b, o + k, rfl, hb, fun j hj => ?_⟩
  have e1 : (L.drop k).getD j [] = L.getD (k + j) [] := by simp [List.getD_eq_getElem?_getD]
  rw [e1, Nat.add_assoc]
  exact hc (k + j) (by omega)
theorem own_cutS {w : World} {base n cap i : Nat} {a : Option Addr} {e : TypeId} {vs : List Value} (h : w.ownsRow base e 1 (.slice a n cap) n vs) (hi : i ≤ n) : w.ownsRow base e 1 (.slice a i cap) i (vs.take i) := by
  refine ⟨by rw [List.length_take, h.1]; omega, ?_⟩
  rcases h.2 with ⟨hv, hn⟩ | ⟨g, cap', cur, hv, h1, h2, h3, h4, h5, h6⟩
  · injection hv with q1 q2 q3
    subst q1; subst q3
    exact .inl ⟨by rw [show i = 0 by omega], by omega⟩
  · injection hv with q1 q2 q3
    subst q1; subst q3
    refine .inr ⟨g, cap, cur, rfl, h1, h2, by omega, h4, h5, ?_⟩
    have : cur.toList.take (i * 1) = (cur.toList.take (n * 1)).take i := by rw [List.take_take]; congr 1; omega
    rw [this, h6]
theorem own_room {w : World} {B g n cap : Nat} {e : TypeId} {xs : List Value} (h : w.ownsRow B e 1 (.slice (some ⟨g, 0, none⟩) n cap) n xs) : n ≤ cap ∧ cap ≤ maxLen := by
  rcases h.2 with ⟨q1, _⟩ | ⟨g', cap', cur, q1, _, _, q2, q3, _⟩
  · cases q1
  · injection q1 with _ _ q1; subst q1; exact ⟨q2, q3⟩
theorem elems_cut {w : World} {base i : Nat} {e : TypeId} {vs : List Value} {L : List (List Int)} (h : Elems w base e vs L) (hi : i ≤ L.length) : Elems w base e (vs.take i) (L.take i) := by
  refine ⟨by rw [List.length_take, List.length_take, h.1], fun j v hv => ?_⟩
  rw [List.getElem?_take] at hv
  split at hv
  · rename_i hj
    have e1 : (L.take i).getD j [] = L.getD j [] := by simp [List.getD_eq_getElem?_getD, hj]
    rw [e1]
    exact h.2 j v hv
  · cases hv
end Go.Proofs.Ythcaipnlgbnfkaa

/-
  append of one int; make of a slice of ints.
-/
namespace Go.Proofs.Ythcaipnlgbnfkaa
open Go.RowKit Fm
set_option linter.unusedVariables false

theorem info_int : (Try.prog.info? 3).map (fun i => (i.zero, i.size, i.bytes)) = some (some (.int .i64 0), 1, 8) := by kernel_rfl
/-- append(v, x), v a row of the call's own, x laid in a new block first. -/
theorem push1 {ops : Array Oper} {rest : List Oper} {o : Oper} {a : Act} {Q : Exit → Act → World → Prop} (hgd : o.guard = none) (s x : Operand)
    (ho : o.op = .call { callee := .builtin .append, args := #[s, x], argTypes := #[22, 22] })
    (w : World) (base : Nat) (v : Value) (n : Nat) (l : List Int) (y : Int) (hs : a.eval s = v) (hx : a.eval x = .slice (some ⟨w.heap.size, 0, none⟩) 1 1)
    (hown : w.ownsRow base 3 1 v n (I l)) (hbase : base ≤ w.heap.size) (hn : n ≤ 1000000)
    (h : ∀ g cap w', w'.ownsRow base 3 1 (.slice (some ⟨g, 0, none⟩) (n + 1) cap) (n + 1) (I (l ++ [y])) → w.grownBy w' v.ownBlock → (v.ownBlock = some g ∨ w.heap.size < g) → g < w'.heap.size →
      wpList Try.prog ops Q rest (a.put o.dst (.slice (some ⟨g, 0, none⟩) (n + 1) cap)) w') : wpList Try.prog ops Q (o :: rest) a (w.alloc (.cells #[.int .i64 y] 3)) := by
  obtain ⟨i0, hi, hz0, hz1, hz2⟩ := info_parts info_int
  refine wpList_append_lies _ hgd s x 22 ho base 3 i0 (.int .i64 0) 1 8 Try.underlying22 hi hz0 hz1 hz2 rfl (by decide) v n (I l) hs (hown.alloc _) ⟨w.heap.size, 0, none⟩ 1 1 [.int .i64 y] hx rfl ?_ ?_ (by decide) ?_ ?_ ?_ (w.heap.size + 1) (by simp) ?_
  · intro j u hj
    match j, hj with
    | 0, hj => simp at hj; subst hj; simp [Addr.add, World.cell?_alloc_new]
  · intro u hu; simp at hu; subst hu; rfl
  · unfold maxLen; omega
  · omega
  · simp; omega
  · intro g cap w' h1 h2 h3 h4
    refine h g cap w' (by simpa [I] using h1) ?_ ?_ h4
    · refine ⟨h2.os, h2.tape, h2.output, Nat.le_trans (by simp) h2.size, fun k hk hne => ?_⟩
      rw [h2.block k (by simp; omega) hne]
      exact Below.heap_alloc w _ k hk
    · rcases h3 with h3 | h3
      · exact .inl h3
      · right; omega

/-- make([]int, n). -/
theorem make_ints (n : Nat) (hn : n ≤ 1000000) (w : World) :
    (Instr.makeSlice 22 (.int .i64 n) (.int .i64 n)).run Try.prog w = .ok (.slice (some ⟨w.heap.size, 0, none⟩) n n) (w.alloc (.cells (zeros n) 3)) := by
  obtain ⟨i0, hi, hz0, hz1, hz2⟩ := info_parts info_int
  have h := run_make (P := Try.prog) w 22 3 i0 (.int .i64 0) Try.underlying22 hi hz0 .i64 .i64 n n (by omega) (Int.le_refl _) (by rw [hz2]; omega) (by omega)
  rw [hz1] at h
  simp only [Int.toNat_natCast, Nat.mul_one, madeCells_zeros] at h
  exact h
end Go.Proofs.Ythcaipnlgbnfkaa

/-
  plumeref.Sides: what it returns; nothing that was there is written.
-/
namespace Go.Proofs.Ythcaipnlgbnfkaa
open Go.RowKit Fm
set_option linter.unusedVariables false

set_option maxHeartbeats 400000 in
set_option maxRecDepth 100000 in
theorem sides_any (n : Nat) (w : World) (hn : n ≤ 1000) :
    Calls Try.prog 58 #[.int .i64 n] w fun e w' => ∃ v, e = .returned v ∧ w'.ownsRow w.heap.size 3 1 v n (I (sides n)) ∧ Below w.heap.size w w' := by
  go_enter Try.func58, Try.ntmps58
  go_wp2
  go_loopw [3, 6] (fun v i wr => ∃ k : Nat, k ≤ n ∧ i = .int .i64 k ∧ wr.ownsRow w.heap.size 3 1 v k (I (sides k)) ∧ Below w.heap.size w wr) (fun _ i _ => n - (intOf i).toNat)
  case atStart => exact ⟨0, Nat.zero_le _, rfl, World.ownsRow_nil _ _ _ _, Below.refl _ _⟩
  case round =>
    obtain ⟨k, hk, rfl, hown, hbel⟩ := hrel
    have hz := hbel.size
    by_cases hlt : k < n
    · go_wp2_with (at_builtin; go_must (refine push1 rfl _ _ rfl wr w.heap.size _ k (sides k) k rfl rfl (by exact hown) hz (by omega) ?_))
      intro g cap w1 hown1 hgr _ _
      have hb1 : Below w.heap.size w w1 := hbel.grown hgr hz (own_not hown)
      clear hgr hown hbel
      go_wp2
      go_roundw
      case rel => exact ⟨k + 1, by omega, by go_num, by rw [sides_succ]; exact hown1, hb1⟩
      case measure => simp [intOf]; omega
    · obtain rfl : k = n := by omega
      go_wp2
      go_ret
      exact ⟨_, rfl, hown, hbel⟩
end Go.Proofs.Ythcaipnlgbnfkaa

/-
  plumeref.Rest and plumekeep.Within: what they return; nothing is written.
-/
namespace Go.Proofs.Ythcaipnlgbnfkaa
open Go.RowKit Fm
set_option linter.unusedVariables false

set_option maxHeartbeats 400000 in
set_option maxRecDepth 100000 in
theorem rest_any (n m : Int) (w : World) (hn0 : -9223372036854775808 ≤ n) (hn1 : n ≤ 9223372036854775807) (hm : 1 ≤ m) (hm2 : m ≤ 1000000) :
    Calls Try.prog 63 #[.int .i64 n, .int .i64 m] w fun e w' => e = .returned (.int .i64 (n % m)) ∧ w = w' := by
  have hb := tmod_lo n (show 0 < m by omega)
  by_cases h : n.tmod m < 0
  · have H := Lib.hid (tmod_neg (by omega) h)
    go_enter Try.func63, Try.ntmps63
    go_wp2
    go_ret
    exact ⟨by rw [← H.out]; rfl, rfl⟩
  · have H := Lib.hid (tmod_pos (by omega) h)
    go_enter Try.func63, Try.ntmps63
    go_wp2
    go_ret
    exact ⟨by rw [← H.out]; rfl, rfl⟩

set_option maxHeartbeats 400000 in
set_option maxRecDepth 100000 in
theorem within_any (n m : Int) (w : World) (hn0 : -9223372036854775808 ≤ n) (hn1 : n ≤ 9223372036854775807) (hm : 1 ≤ m) (hm2 : m ≤ 1000000) :
    Calls Try.prog 29 #[.int .i64 n, .int .i64 m] w fun e w' => e = .returned (.int .i64 (n % m)) ∧ w = w' := by
  go_enter Try.func29, Try.ntmps29
  go_wp2_with fail
  refine (rest_any n m w hn0 hn1 hm hm2).mono ?_
  rintro e w' ⟨rfl, rfl⟩
  go_wp2
  go_ret
  exact ⟨rfl, rfl⟩
end Go.Proofs.Ythcaipnlgbnfkaa

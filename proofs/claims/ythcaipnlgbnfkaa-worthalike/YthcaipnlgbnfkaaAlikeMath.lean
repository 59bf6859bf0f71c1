/-
  A game with its players renamed, and one with a player who adds the same to each set: lists and numbers alone, no Go text.
-/
import Derived.Test.YthcaipnlgbnfkaaWorthP
namespace Go.Proofs.Ythcaipnlgbnfkaa
open Go.RowKit Fm
set_option linter.unusedVariables false

/-- The set of the new names, bit by bit. -/
def toN (p : List Int) (S : Nat) : Nat → Nat
  | 0 => 0
  | i + 1 => if S.testBit i = true then toN p S i ||| 2 ^ (p.getD i 0).toNat else toN p S i
def toOk (n : Nat) : Bool := (allO n).all fun p => (List.range (2 ^ n)).all fun S => (toN p S n == hv (nmW p) n S) && decide (toN p S n < 2 ^ n) && (List.range (2 ^ n)).all fun T => (S == T) || !(toN p S n == toN p T n)
theorem toOk_1 : toOk 1 = true := by decide +kernel
theorem toOk_2 : toOk 2 = true := by decide +kernel
theorem toOk_3 : toOk 3 = true := by decide +kernel
theorem toOk_4 : toOk 4 = true := by decide +kernel
theorem toOk_5 : toOk 5 = true := by decide +kernel
theorem toOk_all {n : Nat} (h1 : 1 ≤ n) (h5 : n ≤ 5) : toOk n = true := by
  have : n = 1 ∨ n = 2 ∨ n = 3 ∨ n = 4 ∨ n = 5 := by omega
  rcases this with rfl | rfl | rfl | rfl | rfl
  · exact toOk_1
  · exact toOk_2
  · exact toOk_3
  · exact toOk_4
  · exact toOk_5
theorem to_all {n : Nat} (h1 : 1 ≤ n) (h5 : n ≤ 5) {p : List Int} (hp : p.Perm (sides n)) {S : Nat} (hS : S < 2 ^ n) : toN p S n = hv (nmW p) n S ∧ toN p S n < 2 ^ n ∧ ∀ T, T < 2 ^ n → toN p S n = toN p T n → S = T := by
  have h := toOk_all h1 h5
  unfold toOk at h
  rw [List.all_eq_true] at h
  have h2 := h p (mem_allO.2 hp)
  rw [List.all_eq_true] at h2
  have h3 := h2 S (List.mem_range.2 hS)
  simp only [Bool.and_eq_true, beq_iff_eq, decide_eq_true_eq, List.all_eq_true, List.mem_range, Bool.or_eq_true, Bool.not_eq_true', beq_eq_false_iff_ne, ne_eq] at h3
  refine ⟨h3.1.1, h3.1.2, fun T hT he => ?_⟩
  rcases h3.2 T hT with q | q
  · exact q
  · exact absurd he q
theorem or_lt {a b n : Nat} (ha : a < 2 ^ n) (hb : b < 2 ^ n) : a ||| b < 2 ^ n := Nat.or_lt_two_pow ha hb
theorem toN_lt {n : Nat} {p : List Int} (hp : p.Perm (sides n)) (S : Nat) : ∀ i, i ≤ n → toN p S i < 2 ^ n := by
  intro i
  induction i with
  | zero => intro _; exact Nat.two_pow_pos n
  | succ i ih =>
    intro hi
    rw [toN]
    split
    · obtain ⟨x, hx, hxn⟩ := at_nat hp (show i < n by omega)
      rw [hx, Int.toNat_natCast]
      exact or_lt (ih (by omega)) (Nat.pow_lt_pow_right (by omega) hxn)
    · exact ih (by omega)

/-- The renamed game as a row, the first s sets written. -/
def wrL (N : Nat) (to : Nat → Nat) (v : Nat → Int) : Nat → List Int
  | 0 => List.replicate N 0
  | s + 1 => (wrL N to v s).set (to s) (v s)
theorem wrL_len (N : Nat) (to : Nat → Nat) (v : Nat → Int) : ∀ s, (wrL N to v s).length = N := by
  intro s
  induction s with
  | zero => simp [wrL]
  | succ s ih => rw [wrL, List.length_set, ih]
theorem wrL_at {N : Nat} {to : Nat → Nat} {v : Nat → Int} (hto : ∀ S, S < N → to S < N) (hinj : ∀ S T, S < N → T < N → to S = to T → S = T) : ∀ s, s ≤ N → ∀ S, S < s → (wrL N to v s).getD (to S) 0 = v S := by
  intro s
  induction s with
  | zero => intro _ S hS; omega
  | succ s ih =>
    intro hs S hS
    rw [wrL, List.getD_eq_getElem?_getD, List.getElem?_set]
    by_cases e : S = s
    · subst e
      rw [if_pos rfl, wrL_len, if_pos (hto S (by omega))]
      rfl
    · have hne : ¬ to s = to S := fun q => e (hinj s S (by omega) (by omega) q).symm
      rw [if_neg hne, ← List.getD_eq_getElem?_getD, ih (by omega) S (by omega)]
theorem wrL_bd {N : Nat} {to : Nat → Nat} {v : Nat → Int} (hv : ∀ S, S < N → -1000000 ≤ v S ∧ v S ≤ 1000000) : ∀ s, s ≤ N → ∀ x ∈ wrL N to v s, -1000000 ≤ x ∧ x ≤ 1000000 := by
  intro s
  induction s with
  | zero => intro _ x hx; rw [wrL, List.mem_replicate] at hx; omega
  | succ s ih =>
    intro hs x hx
    rw [wrL] at hx
    rcases List.mem_or_eq_of_mem_set hx with h | h
    · exact ih (by omega) x h
    · rw [h]; exact hv s (by omega)
theorem wrL_gm {n : Nat} (h1 : 1 ≤ n) (h5 : n ≤ 5) {p : List Int} (hp : p.Perm (sides n)) {v : Nat → Int} (hv : ∀ S, S < 2 ^ n → -1000000 ≤ v S ∧ v S ≤ 1000000) (h0 : v 0 = 0) : Gm n (wrL (2 ^ n) (fun S => toN p S n) v (2 ^ n)) := by
  refine ⟨h1, by omega, wrL_len _ _ _ _, wrL_bd hv _ (Nat.le_refl _), ?_⟩
  have h := wrL_at (N := 2 ^ n) (to := fun S => toN p S n) (v := v) (fun S hS => (to_all h1 h5 hp hS).2.1) (fun S T hS hT he => (to_all h1 h5 hp hS).2.2 T hT he) (2 ^ n) (Nat.le_refl _) 0 (Nat.two_pow_pos n)
  have e : toN p 0 n = 0 := by
    have : ∀ i, toN p 0 i = 0 := fun i => by
      induction i with
      | zero => rfl
      | succ i ih => rw [toN, ih]; simp
    exact this n
  rw [e] at h
  rw [h, h0]
theorem wrL_share {n : Nat} (h1 : 1 ≤ n) (h5 : n ≤ 5) {p : List Int} (hp : p.Perm (sides n)) {v : Nat → Int} {i : Nat} (hi : i < n) : shG (val (wrL (2 ^ n) (fun S => toN p S n) v (2 ^ n))) n (p.getD i 0) = shG v n i :=
  sh_ren hp (fun S hS => by
    rw [← (to_all h1 h5 hp hS).1]
    exact wrL_at (N := 2 ^ n) (to := fun S => toN p S n) (v := v) (fun S hS => (to_all h1 h5 hp hS).2.1) (fun S T hS hT he => (to_all h1 h5 hp hS).2.2 T hT he) (2 ^ n) (Nat.le_refl _) S hS) hi

/-- Without the k-th. -/
def clr (S k : Nat) : Nat := if S.testBit k = true then S - 2 ^ k else S
def idF (v : Nat → Int) (own : Int) (k S : Nat) : Int := v (clr S k) + own * (if S.testBit k = true then 1 else 0)
theorem clr_le (S k : Nat) : clr S k ≤ S := by
  unfold clr
  split
  · exact Nat.sub_le _ _
  · exact Nat.le_refl _
theorem idF_share {n : Nat} (h1 : 1 ≤ n) (h6 : n ≤ 6) {v : Nat → Int} {own : Int} {k : Nat} (hk : k < n) : shG (idF v own k) n k = ((fact n : Nat) : Int) * own := by
  rw [← allO_len h1 h6]
  refine sh_idle hk (fun S hS hb => ?_)
  obtain ⟨e1, e2⟩ := add_tog hk hS hb
  have hbt : (S + 2 ^ k).testBit k = true := by rw [e1, tog_bit, if_pos rfl, hb]; rfl
  unfold idF clr
  rw [if_pos hbt, if_pos hbt, if_neg (by rw [hb]; simp), if_neg (by rw [hb]; simp), Nat.add_sub_cancel]
  omega
theorem idF_zero (v : Nat → Int) (own : Int) (k : Nat) : idF v own k 0 = v 0 := by unfold idF clr; simp
theorem andNot_at : ∀ s : Nat, s < 64 → ∀ k : Nat, k < 6 → bits BinOp.andNot IntKind.i64 (s : Int) (2 ^ k) = ((clr s k : Nat) : Int) := by decide +kernel
theorem andNotW_at : ∀ s : Nat, s < 64 → ∀ k : Nat, k < 6 → bits BinOp.andNot IntKind.i64 (s : Int) (wrap64 (2 ^ k)) = ((clr s k : Nat) : Int) := by decide +kernel
theorem orW_at : ∀ s : Nat, s < 64 → ∀ x : Nat, x < 6 → bits BinOp.or IntKind.i64 (s : Int) (wrap64 (2 ^ x)) = ((s ||| 2 ^ x : Nat) : Int) := by decide +kernel
theorem andOne_at : ∀ s : Nat, s < 64 → ∀ k : Nat, k < 6 → bits BinOp.and IntKind.i64 ((s : Int) / 2 ^ k) 1 = if s.testBit k = true then 1 else 0 := by decide +kernel
theorem orP_at : ∀ s : Nat, s < 64 → ∀ x : Nat, x < 6 → bits BinOp.or IntKind.i64 (s : Int) (2 ^ x) = ((s ||| 2 ^ x : Nat) : Int) := by decide +kernel
theorem bitE_at : ∀ s : Nat, s < 64 → ∀ x : Nat, x < 6 → (bits BinOp.and IntKind.i64 ((s : Int) / 2 ^ x) 1 == 1) = s.testBit x := by decide +kernel
theorem pow_w6 : ∀ k : Nat, k < 6 → wrap64 (2 ^ k) = (2 : Int) ^ k := by decide +kernel
end Go.Proofs.Ythcaipnlgbnfkaa

/-
  plumekeep.roundOf: what it returns; nothing that was there is written.
-/
import Derived.Test.YthcaipnlgbnfkaaCWorths
namespace Go.Proofs.Ythcaipnlgbnfkaa
open Go.RowKit Fm
set_option linter.unusedVariables false

/-- The k-th set that must be there. -/
def needN (l : List Int) (N k : Nat) : Nat := (1 + l.getD k 0 % ((N : Int) - 1)).toNat
def rdTo (l : List Int) (N : Nat) : Nat → Nat → Int
  | 0 => fun _ => 0
  | k + 1 => fun S => rdTo l N k S + unaG (needN l N k) (1 + (k % 5 : Nat)) S
theorem rd_bd (l : List Int) (N : Nat) : ∀ k S, 0 ≤ rdTo l N k S ∧ rdTo l N k S ≤ 5 * (k : Int) := by
  intro k
  induction k with
  | zero => intro S; exact ⟨Int.le_refl _, by simp [rdTo]⟩
  | succ k ih =>
    intro S
    have := ih S
    rw [rdTo]
    dsimp only
    unfold unaG
    split <;> omega
theorem need_pos {l : List Int} {N k : Nat} (hN : 2 ≤ N) : 1 ≤ needN l N k ∧ needN l N k < N ∧ (needN l N k : Int) = 1 + l.getD k 0 % ((N : Int) - 1) := by
  unfold needN
  have h1 := Int.emod_nonneg (l.getD k 0) (show (N : Int) - 1 ≠ 0 by omega)
  have h2 := Int.emod_lt_of_pos (l.getD k 0) (show 0 < (N : Int) - 1 by omega)
  omega
theorem rd_zero {l : List Int} {N : Nat} (hN : 2 ≤ N) : ∀ k, rdTo l N k 0 = 0 := by
  intro k
  induction k with
  | zero => rfl
  | succ k ih =>
    rw [rdTo]
    dsimp only
    rw [ih]
    unfold unaG
    have := (need_pos (l := l) (k := k) hN).1
    rw [if_neg (by rw [Nat.zero_and]; omega)]
    rfl
theorem rd_conv {n : Nat} (l : List Int) (N : Nat) : ∀ k, convG (rdTo l N k) n := by
  intro k
  induction k with
  | zero => intro a b _ _; simp [rdTo]
  | succ k ih => exact conv_add ih (una_conv (by omega))
/-- The game that roundOf makes of the first m numbers. -/
def roundL (n : Nat) (l : List Int) : List Int := funL (2 ^ n) (rdTo l (2 ^ n) l.length)
theorem roundL_len (n : Nat) (l : List Int) : (roundL n l).length = 2 ^ n := funL_len _ _
theorem two_le {n : Nat} (h1 : 1 ≤ n) : 2 ≤ 2 ^ n := (Nat.pow_le_pow_right (by omega) h1 : 2 ^ 1 ≤ 2 ^ n)
theorem roundL_gm {n : Nat} (h1 : 1 ≤ n) (h6 : n ≤ 6) {l : List Int} (hl : l.length ≤ 30) : Gm n (roundL n l) :=
  funL_gm h1 h6 (fun S _ => by have := rd_bd l (2 ^ n) l.length S; omega) (rd_zero (two_le h1) _)
theorem roundL_val {n : Nat} {l : List Int} (hl : l.length ≤ 30) (S : Nat) : 0 ≤ val (roundL n l) S ∧ val (roundL n l) S ≤ 150 := by
  by_cases q : S < 2 ^ n
  · have e : val (roundL n l) S = rdTo l (2 ^ n) l.length S := funL_at _ q
    rw [e]
    have := rd_bd l (2 ^ n) l.length S
    omega
  · unfold val
    rw [List.getD_eq_getElem?_getD, List.getElem?_eq_none (by rw [roundL_len]; omega)]
    decide
theorem roundL_conv (n : Nat) (l : List Int) : convG (val (roundL n l)) n := conv_congr (fun S hS => (funL_at _ hS).symm) (rd_conv l (2 ^ n) l.length)

/-- The first S of f, then x. -/
def putL (N : Nat) (f : Nat → Int) (S : Nat) (x : Int) : List Int := fnL N (fun y => if y.toNat < S then f y.toNat else if y.toNat = S then x else 0)
theorem putL_zero (N : Nat) (f : Nat → Int) (S : Nat) : filL N f S = putL N f S 0 := fnL_congr N (fun j hj => by
  simp only [Int.toNat_natCast]
  by_cases q : j < S
  · rw [if_pos q, if_pos q]
  · rw [if_neg q, if_neg q]; split <;> rfl)
theorem putL_at {N : Nat} (f : Nat → Int) {S : Nat} (hS : S < N) (x : Int) : (putL N f S x).getD S 0 = x := by unfold putL; rw [fnL_at N _ hS]; simp
theorem putL_set {N : Nat} (f : Nat → Int) {S : Nat} (hS : S < N) (x y : Int) : (putL N f S x).set S y = putL N f S y := by
  unfold putL
  rw [fnL_set N _ hS]
  refine fnL_congr N (fun j hj => ?_)
  simp only [Int.toNat_natCast]
  by_cases e : (j : Int) = (S : Int)
  · have : j = S := by omega
    subst this
    simp
  · rw [if_neg e, if_neg (show ¬ j = S by omega), if_neg (show ¬ j = S by omega)]
theorem putL_end (N : Nat) (f : Nat → Int) (S : Nat) : putL N f S (f S) = filL N f (S + 1) := fnL_congr N (fun j hj => by
  simp only [Int.toNat_natCast]
  by_cases q : j < S
  · rw [if_pos q, if_pos (by omega)]
  · rw [if_neg q]
    by_cases e : j = S
    · subst e; rw [if_pos rfl, if_pos (by omega)]
    · rw [if_neg e, if_neg (by omega)])
theorem and_at : ∀ S : Nat, S < 16 → ∀ d : Nat, d < 16 → bits BinOp.and IntKind.i64 (S : Int) (d : Int) = ((S &&& d : Nat) : Int) := by decide +kernel

set_option maxHeartbeats 4000000 in
set_option maxRecDepth 100000 in
theorem roundOf_any {n : Nat} (h1 : 1 ≤ n) (h4 : n ≤ 4) (a : Option Addr) (c : Nat) (l : List Int) (hl : l.length ≤ 30) (w : World) (hr : Rd w w.heap.size a l.length l) (hwf : ∀ x ∈ l, Ok64 x) :
    Calls Try.prog 35 #[.int .i64 n, .slice a l.length c] w fun e w' => ∃ v, e = .returned v ∧ w'.ownsRow w.heap.size 3 1 v (2 ^ n) (I (roundL n l)) ∧ Below w.heap.size w w' := by
  have hpw := gm_pw (show n ≤ 6 by omega)
  have hN16 : 2 ^ n ≤ 16 := Nat.pow_le_pow_right (by omega) h4
  have hN2 := two_le h1
  have HRL : Hid (roundL n l = funL (2 ^ n) (rdTo l (2 ^ n) l.length)) := rfl
  obtain ⟨N, hN⟩ : ∃ N, 2 ^ n = N := ⟨_, rfl⟩
  rw [HRL.out]
  rw [hN] at hpw hN16 hN2 ⊢
  have HB := Lib.hid (rd_bd l N)
  have HNX : Hid (∀ k S, rdTo l N (k + 1) S = rdTo l N k S + unaG (needN l N k) (1 + (k % 5 : Nat)) S) := fun k S => rfl
  have HND : Hid (∀ k, 1 ≤ needN l N k ∧ needN l N k < N ∧ (needN l N k : Int) = 1 + l.getD k 0 % ((N : Int) - 1)) := fun k => need_pos hN2
  have HR0 : Hid (∀ S, rdTo l N 0 S = 0) := fun S => rfl
  have hmk : ∀ W : World, (Instr.makeSlice 22 (.int .i64 N) (.int .i64 N)).run Try.prog W = .ok (.slice (some ⟨W.heap.size, 0, none⟩) N N) (W.alloc (.cells (zeros N) 3)) := make_ints N (by omega)
  obtain ⟨B, hB⟩ : ∃ B, B = w.heap.size := ⟨_, rfl⟩
  have own0 := own_lit w 3 (List.replicate N 0) (zeros N) rfl (by unfold maxLen; simp; omega)
  rw [List.length_replicate, filL_zero N (rdTo l N l.length)] at own0
  have own1 := own_mono own0 (Nat.le_of_eq hB)
  have hb0 : Below B w (w.alloc (.cells (zeros N) 3)) := by rw [hB]; exact (Below.refl _ w).alloc (Nat.le_refl _) _
  have hs0 : B ≤ (w.alloc (.cells (zeros N) 3)).heap.size := by rw [hB]; exact Nat.le_of_lt (by simp)
  have HW : Hid (∀ k, k < l.length → Ok64 (l.getD k 0)) := fun k hk => hwf _ (getD_mem l k hk)
  rw [← hB] at hr ⊢
  have HR := Lib.hid hr
  clear hr hwf hB own0 HRL hN
  generalize rdTo l N = rd at *
  generalize needN l N = nd at *
  generalize l.length = m at *
  go_enter Try.func35, Try.ntmps35
  go_wp2_with fail
  clear hmk hpw
  generalize w.alloc (.cells (zeros N) 3) = w2 at *
  generalize w.heap.size = g at *
  go_loopw [15] (fun iv wr => ∃ S : Nat, S ≤ N ∧ iv = .int .i64 S ∧ wr.ownsRow B 3 1 (.slice (some ⟨g, 0, none⟩) N N) N (I (filL N (rd m) S)) ∧ Below B w wr ∧ B ≤ wr.heap.size) (fun iv _ => N - (intOf iv).toNat)
  case atStart => exact ⟨0, Nat.zero_le _, rfl, own1, hb0, hs0⟩
  case round =>
    obtain ⟨S, hS, rfl, own, hbel, hz⟩ := hrel
    clear own1 hb0 hs0
    by_cases hSN : S < N
    · rw [putL_zero, ← HR0.out S] at own
      obtain ⟨wo, rfl⟩ : ∃ wo, wo = wr := ⟨_, rfl⟩
      go_wp2_with fail
      go_loopw [20] (fun iv wr => ∃ k : Nat, k ≤ m ∧ iv = .int .i64 k ∧ wr.ownsRow B 3 1 (.slice (some ⟨g, 0, none⟩) N N) N (I (putL N (rd m) S (rd k S))) ∧ Below B w wr ∧ B ≤ wr.heap.size) (fun iv _ => m - (intOf iv).toNat)
      case atStart => exact ⟨0, Nat.zero_le _, rfl, own, hbel, hz⟩
      case round =>
        clear own hbel hz
        obtain ⟨k, hk, rfl, own, hbel, hz⟩ := hrel
        by_cases hkm : k < m
        · obtain ⟨b, o, rfl, hb, hcell⟩ := HR.out.at_ hkm
          have hck : wr.cell? ⟨b, o + k, none⟩ = some (.int .i64 (l.getD k 0)) := (hbel.cell (by show b < _; omega)).trans hcell
          have hwx := HW.out k hkm
          obtain ⟨d1, d2, d3⟩ := HND.out k
          have hnx := HNX.out k S
          have hbd := HB.out k S
          have ha := and_at S (by omega) (nd k) (by omega)
          clear hcell
          generalize l.getD k 0 = x at *
          generalize nd k = d at *
          have z1 : (N : Int) - 1 = ((N - 1 : Nat) : Int) := by omega
          rw [z1] at d3
          obtain ⟨N1, hN1⟩ : ∃ N1 : Nat, N - 1 = N1 := ⟨_, rfl⟩
          rw [hN1] at z1 d3
          have hN1p : 1 ≤ N1 := by omega
          have hN1q : N1 ≤ 15 := by omega
          have QW := Lib.hid (within_any x N1 wr hwx.1 hwx.2 (by omega) (by omega))
          have hxm : 0 ≤ x % (N1 : Int) := Int.emod_nonneg _ (by omega)
          have hxl : x % (N1 : Int) < (N1 : Int) := Int.emod_lt_of_pos _ (by omega)
          generalize x % (N1 : Int) = xm at *
          have d4 : 1 + xm = (d : Int) := d3.symm
          clear d3 hN1
          by_cases q : S &&& d = d
          · have hq : (bits BinOp.and IntKind.i64 (S : Int) (d : Int) == (d : Int)) = true := by rw [ha, q]; simp
            have hnx2 : rd (k + 1) S = rd k S + (1 + ((k % 5 : Nat) : Int)) := by rw [hnx]; unfold unaG; rw [if_pos q]
            have ck := own_cell own S hSN
            rw [putL_at (rd m) hSN] at ck
            have fk := own.frozenAt S
            obtain ⟨s1, g1⟩ := own.stored S (.int .i64 (rd k S + (1 + ((k % 5 : Nat) : Int))))
            have es : (I (putL N (rd m) S (rd k S))).set S (.int .i64 (rd k S + (1 + ((k % 5 : Nat) : Int)))) = I (putL N (rd m) S (rd (k + 1) S)) := by
              rw [hnx2, ← putL_set (rd m) hSN (rd k S) (rd k S + (1 + ((k % 5 : Nat) : Int)))]; unfold I; rw [List.map_set]
            rw [es] at s1
            have hb5 := hbel.grown g1 hz (fun z hz2 => by injection hz2 with hz2; have := (own.lt g rfl).1; omega)
            have hz5 := Nat.le_trans hz g1.size
            obtain ⟨k5, hk5⟩ : ∃ k5 : Nat, k % 5 = k5 := ⟨_, rfl⟩
            have hk5z : (k : Int).tmod 5 = (k5 : Int) := by rw [← hk5]; rfl
            have hk5y : (k : Int) % 5 = (k5 : Int) := by rw [← hk5]; rfl
            have hk5l : k5 ≤ 4 := by omega
            rw [hk5] at s1 hb5 hz5
            clear es g1 own hbel hnx hnx2 ha hk5
            generalize rd k S = rv at *
            go_wp2_with fail
            refine QW.out.mono ?_
            rintro e w' ⟨rfl, rfl⟩
            clear QW
            go_wp2
            go_roundw
            case rel => exact ⟨k + 1, by omega, by go_num, s1, hb5, hz5⟩
            case measure => simp [intOf]; omega
          · have hq : (bits BinOp.and IntKind.i64 (S : Int) (d : Int) == (d : Int)) = false := by rw [ha]; exact beq_eq_false_iff_ne.2 (by omega)
            have hnx2 : rd (k + 1) S = rd k S := by rw [hnx]; unfold unaG; rw [if_neg q]; omega
            rw [← hnx2] at own
            clear hnx hnx2 ha
            go_wp2_with fail
            refine QW.out.mono ?_
            rintro e w' ⟨rfl, rfl⟩
            clear QW
            go_wp2
            go_roundw
            case rel => exact ⟨k + 1, by omega, by go_num, own, hbel, hz⟩
            case measure => simp [intOf]; omega
        · obtain rfl : k = m := by omega
          rw [putL_end] at own
          go_wp2
          go_roundw
          case rel => exact ⟨S + 1, by omega, by go_num, own, hbel, hz⟩
          case measure => simp [intOf]; omega
    · obtain rfl : S = N := by omega
      rw [filL_end] at own
      go_wp2
      go_ret
      exact ⟨_, rfl, own, hbel⟩
end Go.Proofs.Ythcaipnlgbnfkaa

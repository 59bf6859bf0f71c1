/-
  plumekeep.worths returns true, if worth.Share keeps its contract; plumekeep.GameOf: what it returns; nothing that was there is written.
-/
import Derived.Test.YthcaipnlgbnfkaaM8
import Derived.Test.YthcaipnlgbnfkaaM4
namespace Go.Proofs.Ythcaipnlgbnfkaa
open Go.RowKit Fm
set_option linter.unusedVariables false

theorem wo1 : shL 2 [0, 0, 2, 6] = [4, 8] := by decide +kernel
theorem wo2 : Gm 2 [0, 0, 2, 6] := ⟨by decide, by decide, by decide, by decide, by decide⟩

set_option maxHeartbeats 1000000 in
set_option maxRecDepth 100000 in
theorem worths_any (sS : WShare) (w : World) : Calls Try.prog 28 #[] w fun e w' => e = .returned (.bool true) ∧ Below w.heap.size w w' := by
  have SS : Hid WShare := sS
  clear sS
  go_enter Try.func28, Try.ntmps28
  go_wp2_with fail
  have L1 : Rd (w.alloc (.cells #[.int .i64 0, .int .i64 0, .int .i64 2, .int .i64 6] 3)) (w.alloc (.cells #[.int .i64 0, .int .i64 0, .int .i64 2, .int .i64 6] 3)).heap.size (some ⟨w.heap.size, 0, none⟩) 4 [0, 0, 2, 6] := by simpa using Rd.lit w 3 [0, 0, 2, 6] #[.int .i64 0, .int .i64 0, .int .i64 2, .int .i64 6] rfl
  have hb : Below w.heap.size w (w.alloc (.cells #[.int .i64 0, .int .i64 0, .int .i64 2, .int .i64 6] 3)) := (Below.refl _ _).alloc (Nat.le_refl _) _
  refine (share_useW (n := 2) (N := 4) SS.out wo2 rfl _ 4 (Nat.le_refl _) _ L1).mono ?_
  rintro e w1 ⟨a1, c1, rfl, _, r1, hb1⟩
  rw [wo1] at r1
  have hb01 := ext_trans hb hb1
  have R1 := Lib.hid r1
  clear L1 hb hb1 SS r1
  go_wp2_with fail
  have l4 := Rd.lit w1 3 [4, 8] #[.int .i64 4, .int .i64 8] rfl
  have b4 : Below w1.heap.size w1 (w1.alloc (.cells #[.int .i64 4, .int .i64 8] 3)) := (Below.refl _ _).alloc (Nat.le_refl _) _
  refine (equal_any [4, 8] [4, 8] a1 (some ⟨w1.heap.size, 0, none⟩) 2 c1 2 2 _ (w1.heap.size + 1) ((R1.out.alloc (Nat.le_refl _) _).more (by omega)) l4 (by omega) (by omega)).mono ?_
  rintro e w4 ⟨rfl, k4, rfl⟩
  have hb04 := ext_trans hb01 (below_drewN b4 k4)
  clear l4 b4 hb01 R1
  go_wp2
  go_ret
  exact ⟨rfl, hb04⟩

/-- The game that GameOf makes of any numbers. -/
def gmAt (l : List Int) (i : Nat) : Int := if 0 < i ∧ i - 1 < l.length then l.getD (i - 1) 0 % 41 - 10 else 0
def gmTo (N : Nat) (l : List Int) (k : Nat) : List Int := fnL N (fun y => if y.toNat < k then gmAt l y.toNat else 0)
def gameL (n : Nat) (l : List Int) : List Int := fnL (2 ^ n) (fun y => gmAt l y.toNat)
theorem gm_bd (l : List Int) (i : Nat) : -10 ≤ gmAt l i ∧ gmAt l i ≤ 30 := by unfold gmAt; split <;> omega
theorem gameL_len (n : Nat) (l : List Int) : (gameL n l).length = 2 ^ n := fnL_len _ _
theorem gameL_at {n : Nat} (l : List Int) {S : Nat} (h : S < 2 ^ n) : val (gameL n l) S = gmAt l S := by unfold val gameL; rw [fnL_at _ _ h]; simp
theorem gameL_gm {n : Nat} (h1 : 1 ≤ n) (h6 : n ≤ 6) (l : List Int) : Gm n (gameL n l) := by
  refine ⟨h1, h6, gameL_len n l, fun x hx => ?_, ?_⟩
  · unfold gameL fnL at hx
    rw [List.mem_map] at hx
    obtain ⟨y, _, rfl⟩ := hx
    have := gm_bd l y.toNat
    omega
  · have := gameL_at (n := n) l (S := 0) (pow1 n)
    unfold val at this
    rw [this]
    unfold gmAt
    rw [if_neg (by omega)]
theorem gm_pw {n : Nat} (h : n ≤ 6) : wrap64 (2 ^ n) = ((2 ^ n : Nat) : Int) := by
  have : n = 0 ∨ n = 1 ∨ n = 2 ∨ n = 3 ∨ n = 4 ∨ n = 5 ∨ n = 6 := by omega
  rcases this with rfl | rfl | rfl | rfl | rfl | rfl | rfl <;> decide +kernel

set_option maxHeartbeats 2000000 in
set_option maxRecDepth 100000 in
theorem gameOf_any {n : Nat} (h1 : 1 ≤ n) (h6 : n ≤ 6) (a : Option Addr) (m c : Nat) (l : List Int) (w : World) (hr : Rd w w.heap.size a m l) (hm : m ≤ 17592186044416) (hwf : ∀ x ∈ l, Ok64 x) :
    Calls Try.prog 30 #[.int .i64 n, .slice a m c] w fun e w' => ∃ v, e = .returned v ∧ w'.ownsRow w.heap.size 3 1 v (2 ^ n) (I (gameL n l)) ∧ Below w.heap.size w w' := by
  obtain ⟨N, hN⟩ : ∃ N, 2 ^ n = N := ⟨_, rfl⟩
  have hN64 : N ≤ 64 := by rw [← hN]; exact pow6 h6
  have hN1 : 1 ≤ N := by rw [← hN]; exact pow1 n
  have hpw : wrap64 (2 ^ n) = (N : Int) := by rw [← hN]; exact gm_pw h6
  have HG : Hid (gmTo N l N = gameL n l) := by
    show _ = _
    unfold gmTo gameL
    rw [hN]
    exact fnL_congr N (fun j hj => by simp [hj])
  have HST : Hid (∀ k, k < N → (gmTo N l k).set k (gmAt l k) = gmTo N l (k + 1)) := fun k hk => by
    unfold gmTo
    rw [fnL_set N _ hk]
    refine fnL_congr N (fun j hj => ?_)
    by_cases e : (j : Int) = (k : Int)
    · have : j = k := by omega
      subst this
      simp
    · rw [if_neg e]
      simp only [Int.toNat_natCast]
      by_cases q : j < k
      · rw [if_pos q, if_pos (by omega)]
      · rw [if_neg q, if_neg (by omega)]
  have HSK : Hid (∀ k, k < N → gmAt l k = 0 → gmTo N l k = gmTo N l (k + 1)) := fun k hk h0 => by
    unfold gmTo
    refine fnL_congr N (fun j hj => ?_)
    simp only [Int.toNat_natCast]
    by_cases q : j < k
    · rw [if_pos q, if_pos (by omega)]
    · rw [if_neg q]
      by_cases e : j = k
      · subst e; rw [if_pos (by omega), h0]
      · rw [if_neg (by omega)]
  have H1 : Hid (gmTo N l 1 = List.replicate N 0) := by
    show _ = _
    rw [zeroL]
    unfold gmTo
    refine fnL_congr N (fun j hj => ?_)
    simp only [Int.toNat_natCast]
    by_cases q : j < 1
    · have : j = 0 := by omega
      subst this
      rfl
    · rw [if_neg q]
  have HB : Hid (∀ k, -10 ≤ gmAt l k ∧ gmAt l k ≤ 30) := gm_bd l
  have HAT : Hid (∀ k, 1 ≤ k → k - 1 < m → gmAt l k = l.getD (k - 1) 0 % 41 - 10) := fun k hk hm => by unfold gmAt; rw [if_pos ⟨by omega, by rw [hr.1]; exact hm⟩]
  have HA0 : Hid (∀ k, ¬ k - 1 < m → gmAt l k = 0) := fun k hm => by unfold gmAt; rw [if_neg (fun q => hm (by rw [← hr.1]; exact q.2))]
  have hmk : ∀ W : World, (Instr.makeSlice 22 (.int .i64 N) (.int .i64 N)).run Try.prog W = .ok (.slice (some ⟨W.heap.size, 0, none⟩) N N) (W.alloc (.cells (zeros N) 3)) := make_ints N (by omega)
  obtain ⟨B, hB⟩ : ∃ B, B = w.heap.size := ⟨_, rfl⟩
  have own0 := own_lit w 3 (List.replicate N 0) (zeros N) rfl (by unfold maxLen; simp; omega)
  rw [List.length_replicate, ← H1.out] at own0
  have own1 := own_mono own0 (Nat.le_of_eq hB)
  have hb0 : Below B w (w.alloc (.cells (zeros N) 3)) := by rw [hB]; exact (Below.refl _ w).alloc (Nat.le_refl _) _
  have hs0 : B ≤ (w.alloc (.cells (zeros N) 3)).heap.size := by rw [hB]; exact Nat.le_of_lt (by simp)
  have HL := Lib.hid hr.1
  have HW := Lib.hid hwf
  rw [← hB] at hr ⊢
  have HR := Lib.hid hr
  rw [hN]
  clear hr hwf hB own0 hN H1
  generalize gameL n l = res at *
  go_enter Try.func30, Try.ntmps30
  go_wp2_with fail
  clear hmk hpw
  generalize w.alloc (.cells (zeros N) 3) = w2 at *
  generalize w.heap.size = g at *
  go_loopw [6] (fun iv wr => ∃ k : Nat, 1 ≤ k ∧ k ≤ N ∧ iv = .int .i64 k ∧ wr.ownsRow B 3 1 (.slice (some ⟨g, 0, none⟩) N N) N (I (gmTo N l k)) ∧ Below B w wr ∧ B ≤ wr.heap.size) (fun iv _ => N - (intOf iv).toNat)
  case atStart => exact ⟨1, by omega, hN1, rfl, own1, hb0, hs0⟩
  case round =>
    obtain ⟨k, hk1, hkN, rfl, own, hbel, hz⟩ := hrel
    clear own1 hb0 hs0
    by_cases hlt : k < N
    · obtain ⟨j, hj⟩ : ∃ j : Nat, k - 1 = j := ⟨_, rfl⟩
      have hjz : (k : Int) - 1 = (j : Int) := by omega
      by_cases hin : j < m
      · obtain ⟨b, o, rfl, hb, hcell⟩ := HR.out.at_ hin
        have hck : wr.cell? ⟨b, o + j, none⟩ = some (.int .i64 (l.getD j 0)) := (hbel.cell (by show b < _; omega)).trans hcell
        have hwx := HW.out _ (getD_mem l j (by rw [HL.out]; exact hin))
        have hat := HAT.out k hk1 (by omega)
        rw [hj] at hat
        have hst := HST.out k hlt
        have hbd := HB.out k
        rw [hat] at hst hbd
        clear hcell hat hj
        generalize l.getD j 0 = x at *
        have ck := own_cell own k hlt
        have fk := own.frozenAt k
        obtain ⟨s1, g1⟩ := own.stored k (.int .i64 (x % 41 - 10))
        have es : (I (gmTo N l k)).set k (.int .i64 (x % 41 - 10)) = I (gmTo N l (k + 1)) := by
          rw [← hst]; unfold I; rw [List.map_set]
        rw [es] at s1
        have hb5 := hbel.grown g1 hz (fun z hz2 => by injection hz2 with hz2; have := (own.lt g rfl).1; omega)
        have hz5 := Nat.le_trans hz g1.size
        clear es g1 hst
        go_wp2_with fail
        refine (within_any x 41 wr hwx.1 hwx.2 (by omega) (by omega)).mono ?_
        rintro e w' ⟨rfl, rfl⟩
        clear own hbel
        generalize x % 41 = y at *
        go_wp2
        go_roundw
        case rel => exact ⟨k + 1, by omega, by omega, by go_num, s1, hb5, hz5⟩
        case measure => simp [intOf]; omega
      · have hsk := HSK.out k hlt (HA0.out k (by omega))
        rw [hsk] at own
        have hnz : ¬ (j : Int) < (m : Int) := by omega
        clear hsk hj
        go_wp2
        go_roundw
        case rel => exact ⟨k + 1, by omega, by omega, by go_num, own, hbel, hz⟩
        case measure => simp [intOf]; omega
    · obtain rfl : k = N := by omega
      rw [HG.out] at own
      go_wp2
      go_ret
      exact ⟨_, rfl, own, hbel⟩
end Go.Proofs.Ythcaipnlgbnfkaa

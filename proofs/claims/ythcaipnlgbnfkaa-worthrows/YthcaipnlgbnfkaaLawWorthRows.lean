/-
  plumekeep.WorthRows returns true, for every int and two slices of ints, if package worth keeps its contracts; nothing that was there is written.
-/
import Derived.Test.YthcaipnlgbnfkaaLawWorthWhole
import Derived.Test.YthcaipnlgbnfkaaCAll
namespace Go.Proofs.Ythcaipnlgbnfkaa
open Go.RowKit Fm
set_option linter.unusedVariables false

theorem wo3 : rowL 2 [0, 0, 2, 6] [1, 0] = [4, 2] := by decide +kernel
theorem wo4 : ([1, 0] : List Int).Perm (sides 2) := by decide
def addL (n : Nat) (f g : Int → Int) (k : Nat) : List Int := fnL n (fun y => if y.toNat < k then f y + g y else f y)
theorem addL_zero (n : Nat) (f g : Int → Int) : fnL n f = addL n f g 0 := fnL_congr n (fun j hj => by rw [if_neg (by omega)])
theorem addL_at {n : Nat} (f g : Int → Int) {k : Nat} (hk : k < n) : (addL n f g k).getD k 0 = f k := by unfold addL; rw [fnL_at n _ hk]; simp
theorem addL_set {n : Nat} (f g : Int → Int) {k : Nat} (hk : k < n) : (addL n f g k).set k (f k + g k) = addL n f g (k + 1) := by
  unfold addL
  rw [fnL_set n _ hk]
  refine fnL_congr n (fun j hj => ?_)
  by_cases e : (j : Int) = (k : Int)
  · rw [if_pos e, e, if_pos (by simp)]
  · rw [if_neg e]
    simp only [Int.toNat_natCast]
    by_cases q : j < k
    · rw [if_pos q, if_pos (by omega)]
    · rw [if_neg q, if_neg (by omega)]
theorem addL_end (n : Nat) (f g : Int → Int) : addL n f g n = fnL n (fun y => f y + g y) := fnL_congr n (fun j hj => by rw [if_pos (by simpa using hj)])
theorem below_grownBy {w w' : World} (h : Below w.heap.size w w') (r : Option Nat) : w.grownBy w' r := ⟨h.os, h.tape, h.output, h.size, fun k hk _ => h.block k hk⟩
theorem rdr_grown {w w' : World} {B n : Nat} {a : Option Addr} {L : List (List Int)} (h : RdR w B a n L) {row : Option Nat} (hg : w.grownBy w' row) (hB : B ≤ w.heap.size) (hr : ∀ g, row = some g → B ≤ g) : RdR w' B a n L :=
  h.keep fun p hp => World.cell?_of_block (hg.block p.block (by omega) (fun e => by have := hr _ e.symm; omega))
theorem sumR_use {n : Nat} {V p : List Int} (g : Gm n V) (hp : p.Perm (sides n)) (a : Option Addr) (c : Nat) (W : World) (hr : Rd W W.heap.size a n (rowL n V p)) :
    Calls Try.prog 32 #[.slice a n c] W fun e w' => e = .returned (.int .i64 (val V (2 ^ n - 1))) ∧ W = w' := by
  have h6 := g.le
  have q := sumK_any a n c (rowL n V p) W W.heap.size hr (by omega) (fun x hx => by have := rowL_bd g p x hx; omega)
  have e : (rowL n V p).sum = val V (2 ^ n - 1) := by
    rw [rowL_sum, row_sum hp]
    have := g.zero
    unfold val
    rw [this, Int.sub_zero]
  rw [e] at q
  exact q
theorem gotBd {n : Nat} {V : List Int} (g : Gm n V) (L : List (List Int)) (hL : L.length ≤ 720) (x : Int) : -1440000000 ≤ tL L (fun p => rowG (val V) n p x) ∧ tL L (fun p => rowG (val V) n p x) ≤ 1440000000 := by
  have h := tL_bd (L := L) (φ := fun p => rowG (val V) n p x) (B := 2000000) (fun p _ => row_bd g p x)
  omega

set_option maxHeartbeats 8000000 in
set_option maxRecDepth 100000 in
theorem worthRows_is (sS : WShare) (sR : WRow) (sRE : WRowE) (n0 : Int) (hn0 : -9223372036854775808 ≤ n0) (hn1 : n0 ≤ 9223372036854775807) (v1 : Value) (l : List Int) {w : World} (f1 : IsInts w v1 l) (vy : Value) (row : List Int) (f2 : IsInts w vy row) :
    Calls Try.prog 6 #[.int .i64 n0, v1, vy] w fun e w' => e = .returned (.bool true) ∧ Below w.heap.size w w' := by
  obtain ⟨a, c, rfl, hr, hox, hlc, _, hcm, h8⟩ := f1
  obtain ⟨ay, cy, rfl, hry, hoy, hly, _, hcy, hy8⟩ := f2
  have HR := Lib.hid hr
  have HO := Lib.hid hox
  have HRY := Lib.hid hry
  have W0 : Hid (∀ W, Calls Try.prog 28 #[] W fun e w' => e = .returned (.bool true) ∧ Below W.heap.size W w') := fun W => worths_any sS W
  have SS : Hid WShare := sS
  have SR : Hid WRow := sR
  have SRE : Hid WRowE := sRE
  clear sS sR sRE hr hox hry hoy
  go_enter Try.func6, Try.ntmps6
  go_wp2_with fail
  have L1 := Rd.lit w 3 [0, 0, 2, 6] #[.int .i64 0, .int .i64 0, .int .i64 2, .int .i64 6] rfl
  have L2 := Rd.lit (w.alloc (.cells #[.int .i64 0, .int .i64 0, .int .i64 2, .int .i64 6] 3)) 3 [1, 0] #[.int .i64 1, .int .i64 0] rfl
  have hb : Below w.heap.size w ((w.alloc (.cells #[.int .i64 0, .int .i64 0, .int .i64 2, .int .i64 6] 3)).alloc (.cells #[.int .i64 1, .int .i64 0] 3)) := ((Below.refl _ _).alloc (Nat.le_refl _) _).alloc (by simp) _
  have L1' := (L1.alloc (by simp) (.cells #[.int .i64 1, .int .i64 0] 3)).more (show w.heap.size + 1 ≤ ((w.alloc (.cells #[.int .i64 0, .int .i64 0, .int .i64 2, .int .i64 6] 3)).alloc (.cells #[.int .i64 1, .int .i64 0] 3)).heap.size by simp)
  have L2' : Rd ((w.alloc (.cells #[.int .i64 0, .int .i64 0, .int .i64 2, .int .i64 6] 3)).alloc (.cells #[.int .i64 1, .int .i64 0] 3)) ((w.alloc (.cells #[.int .i64 0, .int .i64 0, .int .i64 2, .int .i64 6] 3)).alloc (.cells #[.int .i64 1, .int .i64 0] 3)).heap.size (some ⟨w.heap.size + 1, 0, none⟩) 2 [1, 0] := by simpa using L2
  refine (row_useW (n := 2) (N := 4) SR.out wo2 wo4 rfl _ _ 4 2 (Nat.le_refl _) (Nat.le_refl _) _ L1' L2').mono ?_
  rintro e w1 ⟨a1, c1, rfl, _, r1, hb1⟩
  rw [wo3] at r1
  have hb01 := ext_trans hb hb1
  have R1 := Lib.hid r1
  clear L1 L2 L1' L2' hb hb1 r1
  go_wp2_with fail
  have l4 := Rd.lit w1 3 [4, 2] #[.int .i64 4, .int .i64 2] rfl
  have b4 : Below w1.heap.size w1 (w1.alloc (.cells #[.int .i64 4, .int .i64 2] 3)) := (Below.refl _ _).alloc (Nat.le_refl _) _
  refine (equal_any [4, 2] [4, 2] a1 (some ⟨w1.heap.size, 0, none⟩) 2 c1 2 2 _ (w1.heap.size + 1) ((R1.out.alloc (Nat.le_refl _) _).more (by omega)) l4 (by omega) (by omega)).mono ?_
  rintro e w2 ⟨rfl, k2, rfl⟩
  have hb02 := ext_trans hb01 (below_drewN b4 k2)
  clear l4 b4 hb01 R1
  generalize (w1.alloc (.cells #[.int .i64 4, .int .i64 2] 3)).drewN k2 = w2 at *
  go_wp2_with fail
  refine (W0.out w2).mono ?_
  rintro e w3 ⟨rfl, hb3⟩
  have hb03 := ext_trans hb02 hb3
  clear W0 hb02 hb3
  go_wp2_with fail
  refine (within_any n0 5 w3 hn0 hn1 (by omega) (by omega)).mono ?_
  rintro e w1' ⟨rfl, rfl⟩
  obtain ⟨d, hd⟩ : ∃ d : Nat, n0 % 5 = (d : Int) := ⟨(n0 % 5).toNat, by omega⟩
  rw [hd]
  obtain ⟨n, hn⟩ : ∃ n : Nat, d + 1 = n := ⟨_, rfl⟩
  have hnz : (1 : Int) + (d : Int) = (n : Int) := by omega
  have h1 : 1 ≤ n := by omega
  have h5 : n ≤ 5 := by omega
  clear hd hn0 hn1 hn
  go_wp2_with fail
  refine (gameOf_any h1 (by omega) a l.length c l w3 (rd_ext HR.out hb03) (by omega) HO.out).mono ?_
  rintro e w4 ⟨v4, rfl, o4, hb4⟩
  have hb04 := ext_trans hb03 hb4
  have HG := Lib.hid (gameL_gm h1 (show n ≤ 6 by omega) l)
  have HGL := Lib.hid (gameL_len n l)
  obtain ⟨a4, c4, rfl, hc4, _⟩ := own_slice o4
  have R4 := Lib.hid (Rd.of_own o4)
  generalize gameL n l = V at *
  have hp6 := pow6 (show n ≤ 6 by omega)
  have hp1 := pow1 n
  clear hb03 hb4 o4
  go_wp2_with fail
  refine (all_any n w4 h1 (by omega)).mono ?_
  rintro e w5 ⟨v5, vs5, rfl, o5, el5, hb5⟩
  have hb05 := ext_trans hb04 hb5
  have hlp : 0 < (allO n).length := by rw [allO_len h1 (by omega)]; exact fact_ge n
  have hl7 := allO_le h1 (show n ≤ 6 by omega)
  obtain ⟨g5, c5, rfl, _, _⟩ := o5.form hlp
  have R5 := Lib.hid (RdR.of_own o5 rfl el5)
  have R45 := Lib.hid (rd_ext R4.out hb5)
  clear o5 el5 R4 hb04 hb5
  have HAL : Hid (∀ p ∈ allO n, p.Perm (sides n)) := fun p hp => mem_allO.1 hp
  have HSH : Hid (shL n V = fnL n (fun x => tL (allO n) (fun p => rowG (val V) n p x))) := rfl
  generalize allO n = L at *
  go_wp2_with fail
  refine (share_useW SS.out HG.out HGL.out _ c4 hc4 w5 R45.out).mono ?_
  rintro e w6 ⟨a6, c6, rfl, hc6, r6, hb6⟩
  have hb06 := ext_trans hb05 hb6
  have R6 := Lib.hid r6
  have R46 := Lib.hid (rd_ext R45.out hb6)
  have R56 := Lib.hid (rdr_ext R5.out hb6)
  clear R45 R5 hb05 hb6 r6 SS
  go_wp2_with fail
  refine (good_zero w6.heap.size 0 2 2 _ (by omega) (zeros_at w6 23 2 #[.int .i64 0, .int .i64 0] rfl)).mono ?_
  rintro e w7 ⟨rfl, rfl⟩
  have b7 : Below w6.heap.size w6 (w6.alloc (.cells #[.int .i64 0, .int .i64 0] 23)) := (Below.refl _ _).alloc (Nat.le_refl _) _
  have R67 := Lib.hid (rd_ext R6.out b7)
  have R47 := Lib.hid (rd_ext R46.out b7)
  have R57 := Lib.hid (rdr_ext R56.out b7)
  have hb07 := ext_trans hb06 b7
  clear b7 R6 R46 R56 hb06
  generalize w6.alloc (.cells #[.int .i64 0, .int .i64 0] 23) = w7 at *
  have hmk : ∀ W : World, (Instr.makeSlice 22 (.int .i64 n) (.int .i64 n)).run Try.prog W = .ok (.slice (some ⟨W.heap.size, 0, none⟩) n n) (W.alloc (.cells (zeros n) 3)) := make_ints n (by omega)
  have own0 := own_lit w7 3 (List.replicate n 0) (zeros n) rfl (by unfold maxLen; simp; omega)
  rw [List.length_replicate, zeroL n] at own0
  have b8 : Below w7.heap.size w7 (w7.alloc (.cells (zeros n) 3)) := (Below.refl _ _).alloc (Nat.le_refl _) _
  have hb08 := hb07.alloc hb07.size (.cells (zeros n) 3)
  obtain ⟨g, hg⟩ : ∃ g, g = w7.heap.size := ⟨_, rfl⟩
  have hgw : w.heap.size ≤ g := by rw [hg]; exact hb07.size
  have r48 := R47.out.below b8 (Nat.le_refl _)
  have r58 := R57.out.below b8 (Nat.le_refl _)
  have r68 := R67.out.below b8 (Nat.le_refl _)
  have hs8 : g < (w7.alloc (.cells (zeros n) 3)).heap.size := by rw [hg]; simp
  go_wp2_with fail
  rw [← hg] at own0 r48 r58 r68 ⊢
  clear hmk R47 R57 R67 b8 hg hb07
  generalize w7.alloc (.cells (zeros n) 3) = w8 at *
  have R48 := Lib.hid r48
  have R58 := Lib.hid r58
  have R68 := Lib.hid r68
  have own1 : w8.ownsRow g 3 1 (.slice (some ⟨g, 0, none⟩) n n) n (I (fnL n (fun x => tL (L.take 0) (fun p => rowG (val V) n p x)))) := own0
  clear own0 r48 r58 r68
  obtain ⟨N, hN⟩ : ∃ N, 2 ^ n = N := ⟨_, rfl⟩
  rw [hN] at HGL hp6 hp1 hc4 R48 ⊢
  have HN := Lib.hid hN
  have HGB : Hid (∀ (M : List (List Int)), M.length ≤ 720 → ∀ x : Int, -1440000000 ≤ tL M (fun p => rowG (val V) n p x) ∧ tL M (fun p => rowG (val V) n p x) ≤ 1440000000) := fun M hM x => gotBd HG.out M hM x
  have HRB : Hid (∀ (p : List Int) (x : Int), -2000000 ≤ rowG (val V) n p x ∧ rowG (val V) n p x ≤ 2000000) := fun p x => row_bd HG.out p x
  have HVL := HG.out.val_bd (N - 1)
  clear hN
  go_loopw [66] (fun tv wr => ∃ s : Nat, s ≤ L.length ∧ tv = .int .i64 s ∧ wr.ownsRow g 3 1 (.slice (some ⟨g, 0, none⟩) n n) n (I (fnL n (fun x => tL (L.take s) (fun p => rowG (val V) n p x)))) ∧ w8.grownBy wr (some g)) (fun tv _ => L.length - (intOf tv).toNat)
  case atStart => exact ⟨0, Nat.zero_le _, rfl, own1, grown_refl _ _⟩
  case round =>
    obtain ⟨s, hs, rfl, own, hgr⟩ := hrel
    clear own1
    have hz : g < wr.heap.size := Nat.lt_of_lt_of_le hs8 hgr.size
    by_cases hsL : s < L.length
    · have r5 := rdr_grown R58.out hgr (by omega) (fun y hy => by injection hy with hy; omega)
      have r4 := R48.out.grown hgr (by omega) (fun y hy => by injection hy with hy; omega)
      obtain ⟨b, o, a', c', e5, hb5, hcell, hcc, _, _, hrd⟩ := r5.at_ hsL
      injection e5 with e5
      injection e5 with e5 e5'
      subst e5
      subst e5'
      have hperm := HAL.out _ (memR hsL)
      have hql := perm_len hperm
      rw [hql] at hrd hcell hcc
      rw [Nat.zero_add] at hcell
      have HQ := Lib.hid (row_newW SR.out HG.out hperm HGL.out a4 a' c4 c' hc4 hcc wr (r4.more (by omega)) (hrd.more (by omega)))
      have hsn : L.take (s + 1) = L.take s ++ [L.getD s []] := by
        rw [List.take_succ_eq_append_getElem hsL, List.getD_eq_getElem?_getD, List.getElem?_eq_getElem hsL]; rfl
      have HSN : Hid (fnL n (fun x => tL (L.take (s + 1)) (fun p => rowG (val V) n p x)) = fnL n (fun x => tL (L.take s) (fun p => rowG (val V) n p x) + rowG (val V) n (L.getD s []) x)) := by
        show _ = _
        rw [hsn]
        refine fnL_congr n (fun j hj => ?_)
        rw [tL_append, tL_cons]
        simp [tL]
      have htb := HGB.out (L.take s) (by rw [List.length_take]; omega)
      have HTB := Lib.hid htb
      have HRP : Hid (∀ x : Int, -2000000 ≤ rowG (val V) n (L.getD s []) x ∧ rowG (val V) n (L.getD s []) x ≤ 2000000) := HRB.out _
      have hvl := (r4.at_ (show N - 1 < N by omega))
      obtain ⟨bv, ov, ev, hbv, hcv0⟩ := hvl
      subst ev
      have hcv : wr.cell? ⟨bv, ov + (N - 1), none⟩ = some (.int .i64 (val V (N - 1))) := hcv0
      clear hcv0
      have HPM := Lib.hid hperm
      have HRAT : Hid (∀ i, i < n → (rowL n V (L.getD s [])).getD i 0 = rowG (val V) n (L.getD s []) i) := fun i hi => rowL_at V _ hi
      have HSU : Hid (∀ (a : Option Addr) (c : Nat) (W : World), Rd W W.heap.size a n (rowL n V (L.getD s [])) → Calls Try.prog 32 #[.slice a n c] W fun e w' => e = .returned (.int .i64 (val V (N - 1))) ∧ w' = W) := fun a c W hW => by
        have := sumR_use HG.out hperm a c W hW
        rw [HN.out] at this
        exact this.mono fun _ _ ⟨q1, q2⟩ => ⟨q1, q2.symm⟩
      clear htb hsn hperm hql hrd r4 r5
      generalize L.getD s [] = p at *
      generalize hF : (fun x => tL (L.take s) (fun p => rowG (val V) n p x)) = F at *
      have HF : Hid (∀ x, tL (L.take s) (fun p => rowG (val V) n p x) = F x) := fun x => by rw [← hF]
      have HTF : Hid (∀ x, -1440000000 ≤ F x ∧ F x ≤ 1440000000) := fun x => by rw [← HF.out]; exact HTB.out x
      have HSN2 : Hid (fnL n (fun y => F y + rowG (val V) n p y) = fnL n (fun x => tL (L.take (s + 1)) (fun p => rowG (val V) n p x))) := by
        show _ = _
        rw [HSN.out]
        exact fnL_congr n (fun j _ => by rw [HF.out])
      clear hF HTB HSN
      go_wp2_with fail
      refine HQ.out.mono ?_
      rintro e w9 ⟨a9, c9, rfl, hc9, r9, hb9, hnew⟩
      clear HQ
      have own9 := own_below own hb9 (Nat.le_refl _)
      have hgr9 := grown_trans hgr (below_grownBy hb9 (some g))
      have hcv9 := (hb9.cell (p := ⟨bv, ov + (N - 1), none⟩) (by show bv < _; omega)).trans hcv
      have hz9 := hb9.size
      have HS9 : Hid (∀ j, Calls Try.prog 32 #[.slice a9 n c9] (w9.drewN j) fun e w' => e = .returned (.int .i64 (val V (N - 1))) ∧ w' = w9.drewN j) := fun j => HSU.out a9 c9 (w9.drewN j) (r9.drewN j)
      obtain ⟨b9, o9, e9, hb9l, q9⟩ := r9.2 (by omega)
      subst e9
      have hne9 : b9 ≠ g := fun e => by have : wr.heap.size ≤ b9 := hnew _ rfl; omega
      have Q9 : Hid (∀ i, i < n → w9.cell? ⟨b9, o9 + i, none⟩ = some (.int .i64 (rowG (val V) n p i))) := fun i hi => by rw [q9 i hi, HRAT.out i hi]
      obtain ⟨j1, hj1⟩ : ∃ j1 : Nat, N - 1 = j1 := ⟨_, rfl⟩
      have z1 : (N : Int) - 1 = (j1 : Int) := by omega
      have z2 : (j1 : Int) < (N : Int) := by omega
      rw [hj1] at hcv9 HS9
      rw [addL_zero n F (rowG (val V) n p)] at own9
      have hvb := HG.out.val_bd j1
      have hnn : ((n : Int) != (n : Int)) = false := by simp
      clear r9 q9 hb9 hnew hcv hgr own hcell HRAT HSU hj1
      obtain ⟨s9, hs9⟩ : ∃ s9, val V j1 = s9 := ⟨_, rfl⟩
      rw [hs9] at HS9
      have hvv : (s9 != val V j1) = false := by rw [hs9]; simp
      clear hs9
      generalize val V j1 = vl at *
      go_wp2_with fail
      go_quiet ((go_at_call 32; exact Calls.quiet_of_same (HS9.out _)))
      obtain ⟨W2, hW2⟩ : ∃ W, W = w9.drewN nq := ⟨_, rfl⟩
      rw [← hW2]
      have ow2 : W2.ownsRow g 3 1 (.slice (some ⟨g, 0, none⟩) n n) n (I (addL n F (rowG (val V) n p) 0)) := by rw [hW2]; exact own_drewN own9 nq
      have gr2 : w8.grownBy W2 (some g) := by rw [hW2]; exact ⟨hgr9.os, hgr9.tape, hgr9.output, hgr9.size, hgr9.block⟩
      have Q2 : Hid (∀ i, i < n → W2.cell? ⟨b9, o9 + i, none⟩ = some (.int .i64 (rowG (val V) n p i))) := fun i hi => by rw [hW2]; exact Q9.out i hi
      have hl2 : b9 < W2.heap.size := by rw [hW2]; exact hb9l
      clear own9 hgr9 Q9 hW2 HS9 hcv9 hb9l
      go_wp2_with fail
      go_loopw [98] (fun iv wr => ∃ i : Nat, i ≤ n ∧ iv = .int .i64 i ∧ wr.ownsRow g 3 1 (.slice (some ⟨g, 0, none⟩) n n) n (I (addL n F (rowG (val V) n p) i)) ∧ W2.grownBy wr (some g)) (fun iv _ => n - (intOf iv).toNat)
      case atStart => exact ⟨0, Nat.zero_le _, rfl, ow2, grown_refl _ _⟩
      case round =>
        obtain ⟨i, hi, rfl, ow3, gr3⟩ := hrel
        clear ow2
        by_cases hin : i < n
        · have r1 : wr.cell? ⟨b9, o9 + i, none⟩ = some (.int .i64 (rowG (val V) n p i)) := (gr3.cell_far _ (by exact hl2) (by intro e; injection e with e; exact hne9 e)).trans (Q2.out i hin)
          have ck := own_cell ow3 i hin
          rw [addL_at F _ hin] at ck
          have fk := ow3.frozenAt i
          have hst := addL_set F (rowG (val V) n p) hin
          have y1 := HTF.out i
          have y2 := HRP.out i
          obtain ⟨s1, g1⟩ := ow3.stored i (.int .i64 (F i + rowG (val V) n p i))
          have es : (I (addL n F (rowG (val V) n p) i)).set i (.int .i64 (F i + rowG (val V) n p i)) = I (addL n F (rowG (val V) n p) (i + 1)) := by
            rw [← hst]; unfold I; rw [List.map_set]
          rw [es] at s1
          have gr4 := grown_trans gr3 g1
          clear es g1 hst ow3 gr3
          generalize rowG (val V) n p i = x2 at *
          generalize F (i : Int) = x1 at *
          go_wp2_with fail
          go_region
          all_goals
            go_wp2
            go_roundw
            case rel => exact ⟨i + 1, by omega, by go_num, own_drewN s1 _, ⟨gr4.os, gr4.tape, gr4.output, gr4.size, gr4.block⟩⟩
            case measure => simp [intOf]; omega
        · obtain rfl : i = n := by omega
          rw [addL_end] at ow3
          have hg3 := grown_trans gr2 gr3
          rw [HSN2.out] at ow3
          go_wp2
          go_roundw
          case rel => exact ⟨s + 1, by omega, by go_num, ow3, hg3⟩
          case measure => simp [intOf]; omega
    · obtain rfl : s = L.length := by omega
      rw [List.take_of_length_le (Nat.le_refl _), ← HSH.out] at own
      have r4 := R48.out.grown hgr (by omega) (fun y hy => by injection hy with hy; omega)
      have r6 := R68.out.grown hgr (by omega) (fun y hy => by injection hy with hy; omega)
      have hbe := hb08.grown hgr hb08.size (fun y hy => by injection hy with hy; omega)
      have rg := Rd.of_own own
      have ry := rd_ext HRY.out hbe
      have LG : LstG wr a4 N c4 V := ⟨r4.more (by omega), by omega, hc4⟩
      have LY : LstG wr ay row.length cy row := ⟨ry, by omega, hly⟩
      have RG := Lib.hid rg
      have R6 := Lib.hid (r6.more (show g ≤ wr.heap.size by omega))
      by_cases hk : chk n row = 0
      · obtain ⟨_, hl, ho⟩ := chk_zero hk
        have hperm := isOrd_perm (show row.length = n by omega) ho
        have HQ := Lib.hid (SR.out n a4 N c4 V ay row.length cy row wr LG LY HG.out hperm)
        unfold OwnOut at HQ
        rw [rowL_len] at HQ
        clear own r4 r6 rg ry LG LY hk hl ho hperm hgr
        generalize rowL n V row = res at *
        generalize shL n V = sh at *
        generalize row.length = m at *
        go_wp2_with fail
        refine HQ.out.mono ?_
        rintro e w9 ⟨v9, rfl, o9, hb9⟩
        obtain ⟨a9, c9, rfl, _, _⟩ := own_slice o9
        have HE := Lib.hid (equal_ext sh sh (some ⟨g, 0, none⟩) a6 n n n c6 w9 (rd_ext RG.out hb9) (rd_ext R6.out hb9) (by omega) (by omega))
        rw [decide_eq_true rfl] at HE
        have hb09 := ext_trans hbe hb9
        clear HQ o9 hb9 hbe
        go_wp2_with fail
        refine HE.out.mono ?_
        rintro e w10 ⟨rfl, hb10⟩
        have hb010 := ext_trans hb09 hb10
        clear HE hb10 hb09
        go_wp2
        go_ret
        exact ⟨rfl, hb010⟩
      · have hrw : rwchk n V row = 3 := by unfold rwchk; rw [if_neg (by simpa using HG.out.chk), if_pos hk]
        have HQ := Lib.hid (SRE.out n a4 N c4 V ay row.length cy row wr LG LY (by rw [hrw]; decide))
        rw [hrw] at HQ
        clear own r4 r6 rg ry LG LY hk hrw hgr
        generalize shL n V = sh at *
        generalize row.length = m at *
        go_wp2_with fail
        refine HQ.out.mono ?_
        rintro e w9 ⟨a9, c9, rfl, hb9⟩
        have HE := Lib.hid (equal_ext sh sh (some ⟨g, 0, none⟩) a6 n n n c6 w9 (rd_ext RG.out hb9) (rd_ext R6.out hb9) (by omega) (by omega))
        rw [decide_eq_true rfl] at HE
        have hb09 := ext_trans hbe hb9
        clear HQ hb9 hbe
        go_wp2_with fail
        refine HE.out.mono ?_
        rintro e w10 ⟨rfl, hb10⟩
        have hb010 := ext_trans hb09 hb10
        clear HE hb10 hb09
        go_wp2
        go_ret
        exact ⟨rfl, hb010⟩
end Go.Proofs.Ythcaipnlgbnfkaa

/-
  Package seats: byParts, in a row of its own; nothing that was there is written.
-/
import Derived.Test.YtedllchlhdjanaaCSQuot
import Derived.Test.YtedllchlhdjanaaCSCheck
import Derived.Test.YtedllchlhdjanaaTwoMade
namespace Go.Proofs.Ytedllchlhdjanaa
open Go.RowKit Fm
set_option linter.unusedVariables false

/-- The first k of f, zeros behind. -/
def upTo (f : Nat → Nat) (k i : Nat) : Nat := if i < k then f i else 0
theorem upTo_zero (f : Nat → Nat) : upTo f 0 = fun _ => 0 := by funext i; unfold upTo; rw [if_neg (by omega)]
theorem natL_up (n : Nat) (f : Nat → Nat) {k : Nat} (hk : k < n) : (natL n (upTo f k)).set k (f k : Int) = natL n (upTo f (k + 1)) :=
  natL_set n _ _ hk (by unfold upTo; rw [if_pos (by omega)]) (fun i hi hne => by
    unfold upTo
    by_cases q : i < k
    · rw [if_pos q, if_pos (by omega)]
    · rw [if_neg q, if_neg (by omega)])
theorem natL_all (n : Nat) (f : Nat → Nat) : natL n (upTo f n) = natL n f := by
  unfold natL
  refine fnL_congr n (fun i hi => ?_)
  unfold upTo
  rw [if_pos (by omega)]
/-- The remainders of those that have none of the rest; -1 for the others. -/
def remL (n : Nat) (y : Nat → Nat) : List Int := fnL n (fun i => (y i.toNat : Int) - 1)
theorem remL_at (n : Nat) (y : Nat → Nat) {i : Nat} (hi : i < n) : (remL n y).getD i 0 = (y i : Int) - 1 := by unfold remL; rw [fnL_at n _ hi]; simp
theorem remL_zero (n : Nat) (r : Nat → Nat) : natL n r = remL n (remX r (partT n r 0)) := by
  unfold natL remL
  refine fnL_congr n (fun i hi => ?_)
  unfold remX
  rw [partT]
  simp
theorem remL_set (n : Nat) (r : Nat → Nat) (m : Nat) {b : Nat} (hb : b < n) (hpb : pickTo (remX r (partT n r m)) (fun _ => 1) (n - 1) = b) : (remL n (remX r (partT n r m))).set b (-1) = remL n (remX r (partT n r (m + 1))) := by
  unfold remL
  rw [fnL_set n _ hb]
  refine fnL_congr n (fun i hi => ?_)
  rw [partT, hpb]
  unfold remX setB
  by_cases e : (i : Int) = (b : Int)
  · have : i = b := by omega
    subst this
    simp
  · rw [if_neg e]
    simp [show ¬ i = b by omega]
theorem sN_upto (f : Nat → Nat) {k n : Nat} (hk : k ≤ n) : sN f k ≤ sN f n := by
  induction hk with
  | refl => exact Nat.le_refl _
  | step _ ih => rw [sN]; omega
/-- The seats once m of what was left have been given. -/
def partM (n : Nat) (x : Nat → Nat) (t m i : Nat) : Nat := fl x n t i + if partT n (rm x n t) m i = true then 1 else 0

set_option maxHeartbeats 4000000 in
set_option maxRecDepth 100000 in
theorem byP_any {P : List Int} (p : Ppl P) {n : Nat} (hn : P.length = n) (h : Nat) (hh : h ≤ 100) (a : Option Addr) (c : Nat) (w : World) (hr : Rd w w.heap.size a n P) :
    Calls Try.prog 20 #[.slice a n c, .int .i64 h] w fun e w' => ∃ v, e = .returned v ∧ w'.ownsRow w.heap.size 3 1 v n (I (natL n (partS n (xs P) h))) ∧ Below w.heap.size w w' := by
  have h1 := p.pos
  have h8 := p.le
  have hA := p.some_
  rw [hn] at h1 h8 hA
  have HX : Hid (∀ i, i < n → P.getD i 0 = (xs P i : Int) ∧ xs P i ≤ 1000000) := fun i hi => p.at_ (by rw [hn]; exact hi)
  have hmk : ∀ W : World, (Instr.makeSlice 22 (.int .i64 n) (.int .i64 n)).run Try.prog W = .ok (.slice (some ⟨W.heap.size, 0, none⟩) n n) (W.alloc (.cells (zeros n) 3)) := make_ints n (by omega)
  have QS := Lib.hid (sumS_any a n c P w w.heap.size hr (by omega) (fun x hx => by have := p.bd x hx; omega))
  rw [ppl_sum p, hn] at QS
  obtain ⟨o1, o2, hb0⟩ := rows_made w n (by omega)
  rw [natL_zero n] at o1 o2
  have hz0 := hb0.size
  have HR := Lib.hid hr
  have hlf := lft_lt (t := h) h1 hA
  have hls := (rm_sum (t := h) hA).2
  have HFL : Hid (∀ k, k ≤ n → sN (fl (xs P) n h) k ≤ h) := fun k hk => by
    exact Nat.le_trans (sN_upto _ hk) hls
  have HQR : Hid (∀ i, fl (xs P) n h i = h * xs P i / sN (xs P) n ∧ rm (xs P) n h i = h * xs P i % sN (xs P) n) := fun i => by unfold fl rm; rw [Nat.mul_comm h]; exact ⟨rfl, rfl⟩
  have HPK : Hid (∀ m, pickTo (remX (rm (xs P) n h) (partT n (rm (xs P) n h) m)) (fun _ => 1) (n - 1) < n) := fun m => (partT_pick h1 m).1
  have HPF : Hid (∀ m, m < lft (xs P) n h → (natL n (partM n (xs P) h m)).set (pickTo (remX (rm (xs P) n h) (partT n (rm (xs P) n h) m)) (fun _ => 1) (n - 1)) ((partM n (xs P) h m (pickTo (remX (rm (xs P) n h) (partT n (rm (xs P) n h) m)) (fun _ => 1) (n - 1)) : Int) + 1) = natL n (partM n (xs P) h (m + 1))) := fun m hm => by
    have hf := partT_free (r := rm (xs P) n h) h1 (m := m) (by rw [partT_count h1 m (by omega)]; omega)
    refine natL_set n _ _ (partT_pick h1 m).1 ?_ ?_
    · unfold partM
      rw [hf, partT]
      unfold setB
      simp
    · intro i hi hne
      unfold partM
      rw [partT]
      unfold setB
      rw [if_neg hne]
  have HRS : Hid (∀ m, (remL n (remX (rm (xs P) n h) (partT n (rm (xs P) n h) m))).set (pickTo (remX (rm (xs P) n h) (partT n (rm (xs P) n h) m)) (fun _ => 1) (n - 1)) (-1) = remL n (remX (rm (xs P) n h) (partT n (rm (xs P) n h) (m + 1)))) := fun m => remL_set n _ m (partT_pick h1 m).1 rfl
  have HPM : Hid (∀ m i, i < n → partM n (xs P) h m i ≤ 101) := fun m i hi => by
    have h2 := sN_mem (f := fl (xs P) n h) hi
    unfold partM
    split <;> omega
  have HP0 : Hid (natL n (upTo (fl (xs P) n h) n) = natL n (partM n (xs P) h 0)) := by
    show _ = _
    rw [natL_all]
    congr 1
  have HR0 : Hid (natL n (upTo (rm (xs P) n h) n) = remL n (remX (rm (xs P) n h) (partT n (rm (xs P) n h) 0))) := by
    show _ = _
    rw [natL_all]
    exact remL_zero n _
  have HEND : Hid (partM n (xs P) h (lft (xs P) n h) = partS n (xs P) h) := rfl
  have HLF : Hid (h - sN (fl (xs P) n h) n = lft (xs P) n h) := rfl
  rw [← HEND.out]
  have HSS : Hid (∀ k, sN (fl (xs P) n h) (k + 1) = sN (fl (xs P) n h) k + fl (xs P) n h k) := fun k => rfl
  have hAm : sN (xs P) n ≤ 8000000 := by
    have h2 : sN (xs P) n ≤ sN (fun _ => 1000000) n := sN_le (fun i hi => (HX.out i hi).2)
    have e1 : ∀ c m, sN (fun _ => c) m = c * m := fun c m => by
      induction m with
      | zero => rfl
      | succ m ih => rw [sN, ih, Nat.mul_succ]
    rw [e1] at h2
    omega
  rw [← upTo_zero (fl (xs P) n h)] at o1
  rw [← upTo_zero (rm (xs P) n h)] at o2
  clear hr p hn hls HEND
  generalize sN (xs P) n = A at *
  generalize fl (xs P) n h = f at *
  generalize rm (xs P) n h = r at *
  generalize partM n (xs P) h = pm at *
  generalize lft (xs P) n h = lf at *
  obtain ⟨y, hy⟩ : ∃ y : Nat → Nat → Nat, y = fun m => remX r (partT n r m) := ⟨_, rfl⟩
  have hy' : ∀ m, remX r (partT n r m) = y m := fun m => by rw [hy]
  obtain ⟨pk, hpk⟩ : ∃ pk : Nat → Nat, pk = fun m => pickTo (y m) (fun _ => 1) (n - 1) := ⟨_, rfl⟩
  have hpk' : ∀ m, pickTo (y m) (fun _ => 1) (n - 1) = pk m := fun m => by rw [hpk]
  have QG : Hid (∀ m g W, Rd W W.heap.size (some ⟨g, 0, none⟩) n (remL n (y m)) → Calls Try.prog 31 #[.slice (some ⟨g, 0, none⟩) n n] W fun e w' => e = .returned (.int .i64 (pk m : Nat)) ∧ W = w') := fun m g W q => by
    rw [← hpk' m]
    exact firstG_any h1 h8 (y m) (remL n (y m)) (fun i hi => remL_at n _ hi) _ n W W.heap.size q
  have HPK2 : Hid (∀ m, pk m < n) := fun m => by rw [← hpk' m, ← hy' m]; exact HPK.out m
  have HPF2 : Hid (∀ m, m < lf → (natL n (pm m)).set (pk m) ((pm m (pk m) : Int) + 1) = natL n (pm (m + 1))) := fun m hm => by rw [← hpk' m, ← hy' m]; exact HPF.out m hm
  have HRS2 : Hid (∀ m, (remL n (y m)).set (pk m) (-1) = remL n (y (m + 1))) := fun m => by rw [← hpk' m, ← hy' m, ← hy' (m + 1)]; exact HRS.out m
  rw [hy' 0] at HR0
  clear HPK HPF HRS hy hy' hpk hpk'
  go_enter Try.func20, Try.ntmps20
  go_wp2_with fail
  refine QS.out.mono ?_
  rintro e w' ⟨rfl, rfl⟩
  clear QS
  go_wp2_with fail
  clear hmk
  generalize (w.alloc (.cells (zeros n) 3)).alloc (.cells (zeros n) 3) = w2 at *
  obtain ⟨gb, hgb⟩ : ∃ gb, gb = w.heap.size + 1 := ⟨_, rfl⟩
  obtain ⟨ga, hga⟩ : ∃ ga, ga = w.heap.size := ⟨_, rfl⟩
  have hne : ga ≠ gb := by omega
  have hga1 : w.heap.size ≤ ga := by omega
  have hgb1 : w.heap.size ≤ gb := by omega
  have oa0 : w2.ownsRow w.heap.size 3 1 (.slice (some ⟨ga, 0, none⟩) n n) n (I (natL n (upTo f 0))) := by rw [hga]; exact o1
  have ob0 : w2.ownsRow w.heap.size 3 1 (.slice (some ⟨gb, 0, none⟩) n n) n (I (natL n (upTo r 0))) := by rw [hgb]; exact o2
  rw [← hgb, ← hga]
  clear o1 o2 hga hgb
  go_loopw [8, 23] (fun rv iv wr => ∃ k : Nat, k ≤ n ∧ iv = .int .i64 k ∧ rv = .int .i64 ((h - sN f k : Nat) : Int) ∧ wr.ownsRow w.heap.size 3 1 (.slice (some ⟨ga, 0, none⟩) n n) n (I (natL n (upTo f k))) ∧ wr.ownsRow w.heap.size 3 1 (.slice (some ⟨gb, 0, none⟩) n n) n (I (natL n (upTo r k))) ∧ Below w.heap.size w wr) (fun _ iv _ => n - (intOf iv).toNat)
  case atStart => exact ⟨0, Nat.zero_le _, rfl, rfl, oa0, ob0, hb0⟩
  case round =>
    obtain ⟨k, hk, rfl, rfl, oa, ob, hbel⟩ := hrel
    clear oa0 ob0 hb0 hz0
    by_cases hkn : k < n
    · obtain ⟨b, o, rfl, hb, hcell⟩ := HR.out.at_ hkn
      obtain ⟨x1, x2⟩ := HX.out k hkn
      rw [x1] at hcell
      have ck : wr.cell? ⟨b, o + k, none⟩ = some (.int .i64 (xs P k : Int)) := (hbel.cell (by show b < _; omega)).trans hcell
      obtain ⟨q1, q2⟩ := HQR.out k
      have hss := HSS.out k
      have hfl := HFL.out (k + 1) (by omega)
      have hz := hbel.size
      have fa := oa.frozenAt k
      have fb := ob.frozenAt k
      have ca := own_cell oa k hkn
      have cb := own_cell ob k hkn
      obtain ⟨s1, g1⟩ := oa.stored k (.int .i64 (f k : Int))
      have es : (I (natL n (upTo f k))).set k (.int .i64 (f k : Int)) = I (natL n (upTo f (k + 1))) := by
        rw [← natL_up n f hkn]; unfold I; rw [List.map_set]
      rw [es] at s1
      have hb1 := hbel.grown g1 hz (fun z hz2 => by injection hz2 with hz2; omega)
      have ob1 := ob.kept g1 (.inr (by intro h; injection h with h; exact hne h.symm))
      have fb1 := ob1.frozenAt k
      have cb1 := own_cell ob1 k hkn
      obtain ⟨s2, g2⟩ := ob1.stored k (.int .i64 (r k : Int))
      have es2 : (I (natL n (upTo r k))).set k (.int .i64 (r k : Int)) = I (natL n (upTo r (k + 1))) := by
        rw [← natL_up n r hkn]; unfold I; rw [List.map_set]
      rw [es2] at s2
      have oa2 := s1.kept g2 (.inr (by intro h; injection h with h; exact hne h))
      have ca2 := own_cell oa2 k hkn
      have hca2 : (natL n (upTo f (k + 1))).getD k 0 = (f k : Int) := by rw [natL_at n _ hkn]; unfold upTo; rw [if_pos (by omega)]
      rw [hca2] at ca2
      have hb2 := hb1.grown g2 hb1.size (fun z hz2 => by injection hz2 with hz2; omega)
      have HRM : Hid ((h - sN f k) - f k = h - sN f (k + 1)) := by show _ = _; omega
      have hle : f k ≤ h - sN f k := by omega
      have hle2 : h - sN f k ≤ 100 := by omega
      generalize h - sN f k = rest at *
      clear es es2 g1 g2 oa ob ob1 s1 hbel hb1 hcell x1 hss hfl hca2
      have m1 : h * xs P k ≤ 100000000 := Nat.le_trans (Nat.mul_le_mul hh x2) (by omega)
      have e1 : (h : Int) * (xs P k : Int) = ((h * xs P k : Nat) : Int) := by simp
      generalize xs P k = xk at *
      generalize h * xk = H at *
      have d1 : (H : Int).tdiv (A : Int) = (f k : Int) := by rw [q1]; rfl
      have d2 : (H : Int) / (A : Int) = (f k : Int) := by rw [q1]; rfl
      have d3 : (H : Int).tmod (A : Int) = (r k : Int) := by rw [q2]; rfl
      have d4 : (H : Int) % (A : Int) = (r k : Int) := by rw [q2]; rfl
      have d5 : H / A = f k := q1.symm
      have d6 : H % A = r k := q2.symm
      have hA0 : (A : Int) ≠ 0 := by omega
      clear q1 q2
      generalize f k = fk at *
      generalize r k = rk at *
      go_wp2
      go_roundw
      case rel => exact ⟨k + 1, by omega, by go_num, by rw [← HRM.out]; go_num, oa2, s2, hb2⟩
      case measure => simp [intOf]; omega
    · obtain rfl : k = n := by omega
      rw [HP0.out] at oa
      rw [HR0.out] at ob
      rw [HLF.out]
      obtain ⟨w3, rfl⟩ : ∃ w3, w3 = wr := ⟨_, rfl⟩
      clear HQR HFL HX HSS
      go_wp2_with fail
      go_loopw [52] (fun iv wr => ∃ m : Nat, m ≤ lf ∧ iv = .int .i64 m ∧ wr.ownsRow w.heap.size 3 1 (.slice (some ⟨ga, 0, none⟩) k k) k (I (natL k (pm m))) ∧ wr.ownsRow w.heap.size 3 1 (.slice (some ⟨gb, 0, none⟩) k k) k (I (remL k (y m))) ∧ Below w.heap.size w wr) (fun iv _ => lf - (intOf iv).toNat)
      case atStart => exact ⟨0, Nat.zero_le _, rfl, oa, ob, hbel⟩
      case round =>
        clear oa ob hbel
        obtain ⟨m, hm, rfl, oa, ob, hbel⟩ := hrel
        by_cases hml : m < lf
        · have Q := Lib.hid (QG.out m gb wr (Rd.of_own ob))
          have hpk := HPK2.out m
          have hpf := HPF2.out m hml
          have hrs := HRS2.out m
          have hpm := HPM.out m (pk m) hpk
          have hz := hbel.size
          generalize pk m = b at *
          have fa := oa.frozenAt b
          have ca := own_cell oa b hpk
          rw [natL_at k _ hpk] at ca
          obtain ⟨s1, g1⟩ := oa.stored b (.int .i64 ((pm m b : Int) + 1))
          have es : (I (natL k (pm m))).set b (.int .i64 ((pm m b : Int) + 1)) = I (natL k (pm (m + 1))) := by
            rw [← hpf]; unfold I; rw [List.map_set]
          rw [es] at s1
          have hb1 := hbel.grown g1 hz (fun z hz2 => by injection hz2 with hz2; omega)
          have ob1 := ob.kept g1 (.inr (by intro h; injection h with h; exact hne h.symm))
          have fb1 := ob1.frozenAt b
          have cb1 := own_cell ob1 b hpk
          obtain ⟨s2, g2⟩ := ob1.stored b (.int .i64 (-1))
          have es2 : (I (remL k (y m))).set b (.int .i64 (-1)) = I (remL k (y (m + 1))) := by
            rw [← hrs]; unfold I; rw [List.map_set]
          rw [es2] at s2
          have oa2 := s1.kept g2 (.inr (by intro h; injection h with h; exact hne h))
          have hb2 := hb1.grown g2 hb1.size (fun z hz2 => by injection hz2 with hz2; omega)
          clear es es2 g1 g2 oa ob ob1 s1 hbel hb1 hpf hrs
          generalize pm m b = pb at *
          go_wp2_with fail
          refine Q.out.mono ?_
          rintro e w' ⟨rfl, rfl⟩
          clear Q
          go_wp2
          go_roundw
          case rel => exact ⟨m + 1, by omega, by go_num, oa2, s2, hb2⟩
          case measure => simp [intOf]; omega
        · obtain rfl : m = lf := by omega
          go_wp2
          go_ret
          exact ⟨_, rfl, oa, hbel⟩
end Go.Proofs.Ytedllchlhdjanaa

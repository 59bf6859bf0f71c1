/-
  plumeref.SharesOf with largest remainders, at people that are right: in a row of its own; nothing that was there is written.
-/
import Derived.Test.YtedllchlhdjanaaCShD
import Derived.Test.YtedllchlhdjanaaCSParts
namespace Go.Proofs.Ytedllchlhdjanaa
open Go.Shelf Go.RowKit Go.Lib Go.Sort Fm
set_option linter.unusedVariables false

/-- The first N parts by remainders. -/
def RL (r : Nat → Nat) (N : Nat) : List P3 := (List.range N).map fun e => (((e : Nat) : Int), ((r e : Nat) : Int), 1)
theorem RL_len (r : Nat → Nat) (N : Nat) : (RL r N).length = N := by simp [RL]
theorem RL_succ (r : Nat → Nat) (N : Nat) : RL r (N + 1) = RL r N ++ [(((N : Nat) : Int), ((r N : Nat) : Int), 1)] := by unfold RL; rw [List.range_succ, List.map_append]; rfl
theorem LP_RL (r : Nat → Nat) (N e : Nat) (he : e < N) : LP (RL r N) e = (((e : Nat) : Int), ((r e : Nat) : Int), 1) := by
  unfold LP RL
  rw [List.getD_eq_getElem?_getD, List.getElem?_map, List.getElem?_range he]
  rfl
theorem RL_bd {r : Nat → Nat} {N : Nat} (hr : ∀ i, i < N → r i ≤ 100000000) (e : Nat) : 0 ≤ (LP (RL r N) e).2.1 ∧ (LP (RL r N) e).2.1 ≤ 100000000 ∧ 1 ≤ (LP (RL r N) e).2.2 ∧ (LP (RL r N) e).2.2 ≤ 1000 := by
  by_cases c : e < N
  · rw [LP_RL r N e c]
    dsimp only
    have := hr e c
    omega
  · rw [LP_out _ e (by rw [RL_len]; omega)]
    decide
theorem RL_sorted {r : Nat → Nat} {n : Nat} {s : Nat → Nat} (hs : Seg (ltQ (fun e => (LP (RL r n) e).2.1.toNat) (fun e => (LP (RL r n) e).2.2.toNat)) 0 n s) : Seg (ltQ r (fun _ => 1)) 0 n s := by
  refine seg_congr hs (fun e f he hf q => ?_)
  unfold ltQ gtQ at q ⊢
  dsimp only at q
  rw [LP_RL _ _ e he, LP_RL _ _ f hf] at q
  simp only [Int.toNat_natCast] at q
  exact q

set_option maxHeartbeats 8000000 in
set_option maxRecDepth 100000 in
theorem sharesP_any {P : List Int} (p : Ppl P) {n : Nat} (hn : P.length = n) (h : Nat) (hh : h ≤ 100) (a : Option Addr) (c : Nat) (w : World) (hr : Rd w w.heap.size a n P) :
    Calls Try.prog 13 #[.int .i64 3, .slice a n c, .int .i64 h] w (ShOf (partS n (xs P) h) n w) := by
  have n1 := p.pos
  have n8 := p.le
  have hA := p.some_
  rw [hn] at n1 n8 hA
  have HX : Hid (∀ i, i < n → P.getD i 0 = (xs P i : Int) ∧ xs P i ≤ 1000000) := fun i hi => p.at_ (by rw [hn]; exact hi)
  have hmk : ∀ W : World, (Instr.makeSlice 22 (.int .i64 n) (.int .i64 n)).run Try.prog W = .ok (.slice (some ⟨W.heap.size, 0, none⟩) n n) (W.alloc (.cells (zeros n) 3)) := make_ints n (by omega)
  have own0 := own_lit w 3 (List.replicate n 0) (zeros n) rfl (by unfold maxLen; simp; omega)
  rw [List.length_replicate, natL_zero n, ← upTo_zero (fl (xs P) n h)] at own0
  have hb0 : Below w.heap.size w (w.alloc (.cells (zeros n) 3)) := (Below.refl _ w).alloc (Nat.le_refl _) _
  have hs0 : w.heap.size < (w.alloc (.cells (zeros n) 3)).heap.size := by simp
  have HR := Lib.hid hr
  have hlf := lft_lt (t := h) n1 hA
  have hls := (rm_sum (t := h) hA).2
  have e1A : ∀ c m, sN (fun _ => c) m = c * m := fun c m => by
    induction m with
    | zero => rfl
    | succ m ih => rw [sN, ih, Nat.mul_succ]
  have HSB : Hid (∀ k, k ≤ n → sN (xs P) k ≤ 8000000) := fun k hk => by
    have h2 : sN (xs P) k ≤ sN (fun _ => 1000000) k := sN_le (fun i hi => (HX.out i (by omega)).2)
    rw [e1A] at h2
    omega
  have hAm := HSB.out n (Nat.le_refl _)
  have HFL : Hid (∀ k, k ≤ n → sN (fl (xs P) n h) k ≤ h) := fun k hk => Nat.le_trans (sN_upto _ hk) hls
  have HQR : Hid (∀ i, fl (xs P) n h i = xs P i * h / sN (xs P) n ∧ rm (xs P) n h i = xs P i * h % sN (xs P) n) := fun i => ⟨rfl, rfl⟩
  have HRB : Hid (∀ i, i < n → rm (xs P) n h i ≤ 100000000) := fun i _ => by have := rm_lt (t := h) hA i; omega
  have QS : Hid (∀ g cap W, W.ownsRow w.heap.size 44 3 (.slice (some ⟨g, 0, none⟩) n cap) n (F3 (RL (rm (xs P) n h) n)) → Calls Try.prog 25 #[.slice (some ⟨g, 0, none⟩) n cap, .func (.func 26) #[] #[]] W
      fun e w' => e = .returned (.tuple #[]) ∧ (∀ t, t < n → ∃ y z : Int, w'.cell? ⟨g, t * 3, none⟩ = some (.int .i64 (nextP n (rm (xs P) n h) t : Nat)) ∧ w'.cell? ⟨g, t * 3 + 1, none⟩ = some (.int .i64 y) ∧ w'.cell? ⟨g, t * 3 + 2, none⟩ = some (.int .i64 z)) ∧ W.grownBy w' (some g)) := fun g cap W own => by
    have hbd := fun e => RL_bd (N := n) HRB.out e
    refine (sortP_any own (by omega) (by omega) (fun e => by have := hbd e; omega) (cmpLt_of (fun e => by have := hbd e; omega))).mono ?_
    rintro e w' ⟨he, s, hs, hc, hg⟩
    refine ⟨he, fun t ht => ?_, hg⟩
    have hs2 := RL_sorted hs
    have hw := (sortP n1 hs2 (t + 1) (by omega)).2 t (by omega)
    have hst := (hs.in_ t (by omega) ht).2
    have c0 := hc t 0 ht (by omega)
    have c1 := hc t 1 ht (by omega)
    have c2 := hc t 2 ht (by omega)
    rw [LP_RL _ _ _ hst] at c0 c1 c2
    rw [hw] at c0
    exact ⟨_, _, c0, c1, c2⟩
  have HNX : Hid (∀ t, nextP n (rm (xs P) n h) t < n) := fun t => (partT_pick n1 t).1
  have HLE : Hid (∀ m i, i < n → partM n (xs P) h m i ≤ 101) := fun m i hi => by
    have h2 := sN_mem (f := fl (xs P) n h) hi
    unfold partM
    split <;> omega
  have HST : Hid (∀ m, m < lft (xs P) n h → (natL n (partM n (xs P) h m)).set (nextP n (rm (xs P) n h) m) ((partM n (xs P) h m (nextP n (rm (xs P) n h) m) : Int) + 1) = natL n (partM n (xs P) h (m + 1))) := fun m hm => by
    have hf : partT n (rm (xs P) n h) m (nextP n (rm (xs P) n h) m) = false := partT_free (r := rm (xs P) n h) n1 (m := m) (by rw [partT_count n1 m (by omega)]; omega)
    refine natL_set n _ _ (HNX.out m) ?_ ?_
    · unfold partM
      rw [hf, partT_nextP]
      unfold setB
      simp
    · intro i hi hne
      unfold partM
      rw [partT_nextP]
      unfold setB
      rw [if_neg hne]
  have HP0 : Hid (natL n (upTo (fl (xs P) n h) n) = natL n (partM n (xs P) h 0)) := by
    show _ = _
    rw [natL_all]
    congr 1
  have HEND : Hid (partM n (xs P) h (lft (xs P) n h) = partS n (xs P) h) := rfl
  have HLF : Hid (h - sN (fl (xs P) n h) n = lft (xs P) n h) := rfl
  rw [← HEND.out]
  have HSS : Hid (∀ k, sN (fl (xs P) n h) (k + 1) = sN (fl (xs P) n h) k + fl (xs P) n h k) := fun k => rfl
  have HSX : Hid (∀ k, sN (xs P) (k + 1) = sN (xs P) k + xs P k) := fun k => rfl
  clear hr p hn hls HEND e1A
  generalize nextP n (rm (xs P) n h) = nx at *
  generalize fl (xs P) n h = f at *
  generalize rm (xs P) n h = r at *
  generalize partM n (xs P) h = pm at *
  generalize lft (xs P) n h = lf at *
  go_enter Try.func13, Try.ntmps13
  go_wp2_with fail
  clear hmk
  generalize w.alloc (.cells (zeros n) 3) = w1 at *
  obtain ⟨ga, hga⟩ : ∃ ga, ga = w.heap.size := ⟨_, rfl⟩
  have hga0 : w.heap.size ≤ ga := by omega
  have hga1 : ga < w1.heap.size := by omega
  have oa0 : w1.ownsRow w.heap.size 3 1 (.slice (some ⟨ga, 0, none⟩) n n) n (I (natL n (upTo f 0))) := by rw [hga]; exact own0
  rw [← hga]
  clear own0 hga hs0
  go_loop [8, 25] (fun sv iv => ∃ (k : Nat), k ≤ n ∧ iv = .int .i64 k ∧ sv = .int .i64 ((sN (xs P) k : Nat) : Int)) (fun _ iv => n - (intOf iv).toNat)
  case atStart => exact ⟨0, Nat.zero_le _, rfl, rfl⟩
  case round =>
    obtain ⟨k, hk, rfl, rfl⟩ := hrel
    by_cases hkn : k < n
    · obtain ⟨b, o, rfl, hb, hcell⟩ := HR.out.at_ hkn
      obtain ⟨x1, x2⟩ := HX.out k hkn
      rw [x1] at hcell
      have ck : w1.cell? ⟨b, o + k, none⟩ = some (.int .i64 (xs P k : Int)) := (hb0.cell (by show b < _; omega)).trans hcell
      have HS := Lib.hid (HSX.out k)
      have hsb := HSB.out k hk
      clear hcell x1
      generalize xs P k = xk at *
      generalize sN (xs P) k = sk at *
      go_wp2
      go_round
      case rel => exact ⟨k + 1, by omega, by go_num, by rw [HS.out]; go_num⟩
      case measure => simp [intOf]; omega
    · obtain rfl : k = n := by omega
      clear HSB HSX
      generalize sN (xs P) k = A at *
      go_wp2_with fail
      go_loopw [11, 35] (fun lv iv wr => ∃ (i : Nat), i ≤ k ∧ iv = .int .i64 i ∧ wr.ownsRow w.heap.size 44 3 lv i (F3 (RL r i)) ∧ (∀ b, lv.ownBlock = some b → ga < b) ∧ wr.ownsRow w.heap.size 3 1 (.slice (some ⟨ga, 0, none⟩) k k) k (I (natL k (upTo f i))) ∧ Below w.heap.size w wr) (fun _ iv _ => k - (intOf iv).toNat)
      case atStart => exact ⟨0, Nat.zero_le _, rfl, World.ownsRow_nil _ _ _ _, fun b hb => by simp [Value.ownBlock] at hb, oa0, hb0⟩
      case round =>
        obtain ⟨i, hi, rfl, ol, hlb, oa, hbel⟩ := hrel
        clear oa0 hb0
        by_cases hik : i < k
        · obtain ⟨b, o, rfl, hb, hcell⟩ := HR.out.at_ hik
          obtain ⟨x1, x2⟩ := HX.out i hik
          rw [x1] at hcell
          have ck : wr.cell? ⟨b, o + i, none⟩ = some (.int .i64 (xs P i : Int)) := (hbel.cell (by show b < _; omega)).trans hcell
          obtain ⟨q1, q2⟩ := HQR.out i
          have hz := hbel.size
          have fa := oa.frozenAt i
          have ca := own_cell oa i hik
          obtain ⟨s1, g1⟩ := oa.stored i (.int .i64 (f i : Int))
          have es : (I (natL k (upTo f i))).set i (.int .i64 (f i : Int)) = I (natL k (upTo f (i + 1))) := by
            rw [← natL_up k f hik]; unfold I; rw [List.map_set]
          rw [es] at s1
          have ol1 := ol.kept g1 (.inr (by
            intro q
            have := hlb ga q
            omega))
          have hb1 := hbel.grown g1 hz (fun z hz2 => by injection hz2 with hz2; omega)
          have hz1 := hb1.size
          have ca2 := own_cell s1 i hik
          have hca2 : (natL k (upTo f (i + 1))).getD i 0 = (f i : Int) := by rw [natL_at k _ hik]; unfold upTo; rw [if_pos (by omega)]
          rw [hca2] at ca2
          have hlt := (oa.lt ga rfl).2
          have HRS := Lib.hid (RL_succ r i)
          have m1 : xs P i * h ≤ 100000000 := Nat.le_trans (Nat.mul_le_mul x2 hh) (by omega)
          have e1 : (xs P i : Int) * (h : Int) = ((xs P i * h : Nat) : Int) := by simp
          clear hcell x1 es oa ol hca2
          generalize xs P i = xi at *
          generalize xi * h = X at *
          have hfi : f i ≤ 100000000 := by rw [q1]; exact Nat.le_trans (Nat.div_le_self X A) m1
          have dm := Nat.div_add_mod X A
          rw [← q1, ← q2] at dm
          have d1 : (X : Int).tdiv (A : Int) = (f i : Int) := by rw [q1]; rfl
          have d2 : (X : Int) / (A : Int) = (f i : Int) := by rw [q1]; rfl
          have d5 : X / A = f i := q1.symm
          have e2 : (f i : Int) * (A : Int) = ((A * f i : Nat) : Int) := by rw [Nat.mul_comm]; simp
          have hA0 : (A : Int) ≠ 0 := by omega
          clear q1 q2
          generalize f i = fi at *
          generalize hr9 : r i = ri at *
          generalize A * fi = FA at *
          have e3 : (X : Int) - (FA : Int) = (ri : Int) := by omega
          have hFA : FA ≤ 100000000 := by omega
          generalize RL r i = rl at *
          clear hr9
          go_wp2_with (at_builtin; refine push3 rfl _ _ rfl (wr.setCell ⟨ga, i, none⟩ (.int .i64 (fi : Int))) w.heap.size _ i rl i ri 1 rfl (by rw [World.size_setCell]; rfl) (by exact ol1) hz1 (by omega) ?_)
          intro g4 cap4 w4 own4 gr4 hg4 hg4'
          have hb4 := hb1.grown gr4 hz1 (fun k hk => (ol1.lt k hk).1)
          have oa4 := s1.kept gr4 (.inr (by
            intro q
            have := hlb ga q.symm
            omega))
          have hlb4 : ∀ b, (Value.slice (some ⟨g4, 0, none⟩) (i + 1) cap4).ownBlock = some b → ga < b := fun b hb => by
            have e : g4 = b := by simpa [Value.ownBlock] using hb
            subst e
            rcases hg4 with q | q
            · exact hlb _ q
            · omega
          rw [← HRS.out] at own4
          clear gr4 hb1 ol1 s1 hlb hg4 HRS ck ca ca2 fa
          go_wp2
          go_roundw
          case rel => exact ⟨i + 1, by omega, by go_num, own4, hlb4, oa4, hb4⟩
          case measure => simp [intOf]; omega
        · obtain rfl : i = k := by omega
          have hform : ∃ g cap, u11 = Value.slice (some ⟨g, 0, none⟩) i cap ∧ i ≤ cap ∧ cap ≤ maxLen := by
            rcases ol.2 with ⟨_, q⟩ | ⟨g, cap, cur, q, _, _, q1, q2, _⟩
            · omega
            · exact ⟨g, cap, q, q1, q2⟩
          obtain ⟨g, cap, rfl, hc1, hc2⟩ := hform
          have hgg := hlb g rfl
          have hz := hbel.size
          have hgw := (ol.lt g rfl)
          have Q := Lib.hid (QS.out g cap wr ol)
          have OA := Lib.hid oa
          have HB := Lib.hid hbel
          unfold maxLen at hc2
          clear ol oa hbel hlb
          go_wp2_with fail
          refine Q.out.mono ?_
          rintro e w3 ⟨rfl, hcells, hgr⟩
          have HCS := Lib.hid hcells
          have oa3 := OA.out.kept hgr (.inr (by intro q; injection q with q; have q : ga = g := q; omega))
          have hb3 := HB.out.grown hgr hz (fun y hy => by injection hy with hy; omega)
          clear Q OA HB hcells hgr
          go_wp2_with fail
          go_loop [15, 86] (fun sv iv => ∃ t : Nat, t ≤ i ∧ iv = .int .i64 t ∧ sv = .int .i64 ((h - sN f t : Nat) : Int)) (fun _ iv => i - (intOf iv).toNat)
          case atStart => exact ⟨0, Nat.zero_le _, rfl, rfl⟩
          case round =>
            obtain ⟨t, ht, rfl, rfl⟩ := hrel
            by_cases hti : t < i
            · have ck := own_cell oa3 t hti
              rw [natL_at i _ hti] at ck
              have hut : upTo f i t = f t := by unfold upTo; rw [if_pos hti]
              rw [hut] at ck
              have hss := HSS.out t
              have hfl := HFL.out (t + 1) (by omega)
              have HRM : Hid ((h - sN f t) - f t = h - sN f (t + 1)) := by show _ = _; omega
              have hle : f t ≤ h - sN f t := by omega
              have hle2 : h - sN f t ≤ 100 := by omega
              clear hut hss hfl
              generalize h - sN f t = rest at *
              generalize f t = ft at *
              go_wp2
              go_round
              case rel => exact ⟨t + 1, by omega, by go_num, by rw [← HRM.out]; go_num⟩
              case measure => simp [intOf]; omega
            · obtain rfl : t = i := by omega
              rw [HP0.out] at oa3
              rw [HLF.out]
              have hz3 := hb3.size
              have hcap : (lf : Int) ≤ (cap : Int) := by omega
              go_wp2_with fail
              go_loopw [98] (fun iv wr => ∃ u : Nat, u ≤ lf ∧ iv = .int .i64 u ∧ wr.ownsRow w.heap.size 3 1 (.slice (some ⟨ga, 0, none⟩) t t) t (I (natL t (pm u))) ∧ Below w.heap.size w wr ∧ w3.grownBy wr (some ga)) (fun iv _ => lf - (intOf iv).toNat)
              case atStart => exact ⟨0, Nat.zero_le _, rfl, oa3, hb3, grown_refl _ _⟩
              case round =>
                obtain ⟨u, hu, rfl, oa4, hb4, hg4⟩ := hrel
                clear oa3 hb3
                by_cases huh : u < lf
                · obtain ⟨y, z, c0, c1, c2⟩ := HCS.out u (by omega)
                  have hgl := World.block_lt_of_cell? w3 _ c0
                  have d0 : wr.cell? ⟨g, u * 3, none⟩ = some (.int .i64 (nx u : Nat)) := (hg4.cell_far _ (by exact hgl) (by intro e; injection e with e; have : g = ga := e; omega)).trans c0
                  have d1 : wr.cell? ⟨g, u * 3 + 1, none⟩ = some (.int .i64 y) := (hg4.cell_far _ (by exact hgl) (by intro e; injection e with e; have : g = ga := e; omega)).trans c1
                  have d2 : wr.cell? ⟨g, u * 3 + 2, none⟩ = some (.int .i64 z) := (hg4.cell_far _ (by exact hgl) (by intro e; injection e with e; have : g = ga := e; omega)).trans c2
                  have hnx := HNX.out u
                  have hst := HST.out u huh
                  have hle := HLE.out u (nx u) hnx
                  generalize nx u = b at *
                  have oa5 := oa4.alloc (.cells #[.int .i64 (b : Int), .int .i64 y, .int .i64 z] 44)
                  have ck := own_cell oa5 b hnx
                  rw [natL_at t _ hnx] at ck
                  have fk := oa5.frozenAt b
                  obtain ⟨s1, g1⟩ := oa5.stored b (.int .i64 ((pm u b : Int) + 1))
                  have es : (I (natL t (pm u))).set b (.int .i64 ((pm u b : Int) + 1)) = I (natL t (pm (u + 1))) := by
                    rw [← hst]; unfold I; rw [List.map_set]
                  rw [es] at s1
                  have hb5 := (hb4.alloc hb4.size (.cells #[.int .i64 (b : Int), .int .i64 y, .int .i64 z] 44))
                  have hb6 := hb5.grown g1 hb5.size (fun z hz2 => by injection hz2 with hz2; omega)
                  have hg6 := grown_trans (grown_trans hg4 (World.grownBy_alloc wr (.cells #[.int .i64 (b : Int), .int .i64 y, .int .i64 z] 44) (some ga))) g1
                  have cn : (wr.alloc (.cells #[.int .i64 (b : Int), .int .i64 y, .int .i64 z] 44)).cell? ⟨wr.heap.size, 0, none⟩ = some (.int .i64 (b : Int)) := by rw [World.cell?_alloc_new]; rfl
                  generalize pm u b = sb at *
                  clear es g1 hst c0 c1 c2 oa4 hb4 hg4 hb5
                  go_wp2
                  go_roundw
                  case rel => exact ⟨u + 1, by omega, by go_num, s1, hb6, hg6⟩
                  case measure => simp [intOf]; omega
                · obtain rfl : u = lf := by omega
                  go_wp2
                  go_ret
                  exact ⟨_, rfl, oa4, hb4⟩
end Go.Proofs.Ytedllchlhdjanaa

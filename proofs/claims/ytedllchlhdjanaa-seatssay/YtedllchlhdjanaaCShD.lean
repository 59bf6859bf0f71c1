/-
  plumeref.SharesOf with divisors, at people that are right and one seat or more: in a row of its own; nothing that was there is written.
-/
import Derived.Test.YtedllchlhdjanaaCPartSort
import Derived.Test.YtedllchlhdjanaaSortSeat
import Derived.Test.YtedllchlhdjanaaCSQuot
namespace Go.Proofs.Ytedllchlhdjanaa
open Go.Shelf Go.RowKit Go.Lib Go.Sort Fm
set_option linter.unusedVariables false

theorem seg_congr {lt lt' : Nat → Nat → Prop} {n : Nat} {s : Nat → Nat} (h : Seg lt 0 n s) (he : ∀ e f, e < n → f < n → lt e f → lt' e f) : Seg lt' 0 n s :=
  ⟨fun i j h1 h2 h3 => he _ _ (h.in_ i h1 (by omega)).2 (h.in_ j (by omega) h3).2 (h.srt i j h1 h2 h3), h.in_, h.on⟩
theorem cmpLt_of {L : Nat → P3} (hb : ∀ e, 0 ≤ (L e).2.1 ∧ 1 ≤ (L e).2.2) : CmpLt (cfP L) (ltQ (fun e => (L e).2.1.toNat) (fun e => (L e).2.2.toNat)) := by
  refine ⟨ltQ_sto (fun e => by have := hb e; omega), fun x y hxy => ?_⟩
  obtain ⟨x1, x2⟩ := hb x
  obtain ⟨y1, y2⟩ := hb y
  unfold cfP ltQ gtQ
  obtain ⟨a, ha⟩ : ∃ a : Nat, (L x).2.1 = a := ⟨_, (Int.toNat_of_nonneg x1).symm⟩
  obtain ⟨b, hb⟩ : ∃ b : Nat, (L x).2.2 = b := ⟨_, (Int.toNat_of_nonneg (by omega)).symm⟩
  obtain ⟨c, hc⟩ : ∃ c : Nat, (L y).2.1 = c := ⟨_, (Int.toNat_of_nonneg y1).symm⟩
  obtain ⟨d, hd⟩ : ∃ d : Nat, (L y).2.2 = d := ⟨_, (Int.toNat_of_nonneg (by omega)).symm⟩
  dsimp only
  rw [ha, hb, hc, hd]
  simp only [Int.toNat_natCast]
  have e1 : (c : Int) * (b : Int) = ((c * b : Nat) : Int) := by simp
  have e2 : (a : Int) * (d : Int) = ((a * d : Nat) : Int) := by simp
  rw [e1, e2]
  omega

/-- The first N parts by divisors. -/
def DL (x : Nat → Nat) (wy h N : Nat) : List P3 := (List.range N).map fun e => (((e / h : Nat) : Int), ((x (e / h) : Nat) : Int), ((wy * (e % h) + 1 : Nat) : Int))
theorem DL_len (x : Nat → Nat) (wy h N : Nat) : (DL x wy h N).length = N := by simp [DL]
theorem DL_succ (x : Nat → Nat) (wy h N : Nat) : DL x wy h (N + 1) = DL x wy h N ++ [(((N / h : Nat) : Int), ((x (N / h) : Nat) : Int), ((wy * (N % h) + 1 : Nat) : Int))] := by
  unfold DL; rw [List.range_succ, List.map_append]; rfl
theorem LP_DL (x : Nat → Nat) (wy h N e : Nat) (he : e < N) : LP (DL x wy h N) e = (((e / h : Nat) : Int), ((x (e / h) : Nat) : Int), ((wy * (e % h) + 1 : Nat) : Int)) := by
  unfold LP DL
  rw [List.getD_eq_getElem?_getD, List.getElem?_map, List.getElem?_range he]
  rfl
theorem LP_out (l : List P3) (e : Nat) (he : l.length ≤ e) : LP l e = (0, 0, 1) := by
  unfold LP
  rw [List.getD_eq_getElem?_getD, List.getElem?_eq_none he]
  rfl
theorem DL_bd {x : Nat → Nat} {wy h N : Nat} (hx : ∀ i, x i ≤ 1000000) (hw : wy ≤ 2) (h0 : 0 < h) (hh : h ≤ 100) (e : Nat) : 0 ≤ (LP (DL x wy h N) e).2.1 ∧ (LP (DL x wy h N) e).2.1 ≤ 100000000 ∧ 1 ≤ (LP (DL x wy h N) e).2.2 ∧ (LP (DL x wy h N) e).2.2 ≤ 1000 := by
  by_cases c : e < N
  · rw [LP_DL x wy h N e c]
    dsimp only
    have := hx (e / h)
    have m : wy * (e % h) ≤ 2 * 100 := Nat.mul_le_mul hw (by have := Nat.mod_lt e h0; omega)
    omega
  · rw [LP_out _ e (by rw [DL_len]; omega)]
    decide
theorem xs_le {P : List Int} (p : Ppl P) (i : Nat) : xs P i ≤ 1000000 := by
  by_cases h : i < P.length
  · exact (p.at_ h).2
  · unfold xs
    rw [List.getD_eq_getElem?_getD, List.getElem?_eq_none (by omega)]
    decide
theorem DL_sorted {x : Nat → Nat} {wy h n : Nat} {s : Nat → Nat} (hs : Seg (ltQ (fun e => (LP (DL x wy h (n * h)) e).2.1.toNat) (fun e => (LP (DL x wy h (n * h)) e).2.2.toNat)) 0 (n * h) s) : Seg (ltQ (pD x h) (bD wy h)) 0 (n * h) s := by
  refine seg_congr hs (fun e f he hf q => ?_)
  unfold ltQ gtQ at q ⊢
  dsimp only at q
  rw [LP_DL _ _ _ _ e he, LP_DL _ _ _ _ f hf] at q
  simp only [Int.toNat_natCast] at q
  exact q

/-- What plumeref.SharesOf hands back. -/
def ShOf (f : Nat → Nat) (n : Nat) (w : World) (e : Ending) (w' : World) : Prop := ∃ v, e = .returned v ∧ w'.ownsRow w.heap.size 3 1 v n (I (natL n f)) ∧ Below w.heap.size w w'

set_option maxHeartbeats 8000000 in
set_option maxRecDepth 100000 in
theorem sharesD_any {P : List Int} (p : Ppl P) {n : Nat} (hn : P.length = n) (wy : Nat) (hw1 : 1 ≤ wy) (hw2 : wy ≤ 2) (h : Nat) (h1 : 1 ≤ h) (hh : h ≤ 100) (a : Option Addr) (c : Nat) (w : World) (hr : Rd w w.heap.size a n P) :
    Calls Try.prog 13 #[.int .i64 wy, .slice a n c, .int .i64 h] w (ShOf (seatT wy n (xs P) h) n w) := by
  have n1 := p.pos
  have n8 := p.le
  rw [hn] at n1 n8
  have HX : Hid (∀ i, i < n → P.getD i 0 = (xs P i : Int) ∧ xs P i ≤ 1000000) := fun i hi => p.at_ (by rw [hn]; exact hi)
  have hmk : ∀ W : World, (Instr.makeSlice 22 (.int .i64 n) (.int .i64 n)).run Try.prog W = .ok (.slice (some ⟨W.heap.size, 0, none⟩) n n) (W.alloc (.cells (zeros n) 3)) := make_ints n (by omega)
  have own0 := own_lit w 3 (List.replicate n 0) (zeros n) rfl (by unfold maxLen; simp; omega)
  rw [List.length_replicate, natL_zero n] at own0
  have hb0 : Below w.heap.size w (w.alloc (.cells (zeros n) 3)) := (Below.refl _ w).alloc (Nat.le_refl _) _
  have hs0 : w.heap.size < (w.alloc (.cells (zeros n) 3)).heap.size := by simp
  have HR := Lib.hid hr
  have HXL : Hid (∀ i, xs P i ≤ 1000000) := xs_le p
  -- the sort of the whole row, and who then comes
  have QS : Hid (∀ g cap W, W.ownsRow w.heap.size 44 3 (.slice (some ⟨g, 0, none⟩) (n * h) cap) (n * h) (F3 (DL (xs P) wy h (n * h))) → Calls Try.prog 25 #[.slice (some ⟨g, 0, none⟩) (n * h) cap, .func (.func 26) #[] #[]] W
      fun e w' => e = .returned (.tuple #[]) ∧ (∀ t, t < h → ∃ y z : Int, w'.cell? ⟨g, t * 3, none⟩ = some (.int .i64 (nextD wy n (xs P) t : Nat)) ∧ w'.cell? ⟨g, t * 3 + 1, none⟩ = some (.int .i64 y) ∧ w'.cell? ⟨g, t * 3 + 2, none⟩ = some (.int .i64 z)) ∧ W.grownBy w' (some g)) := fun g cap W own => by
    have hbd := fun e => DL_bd (x := xs P) (wy := wy) (h := h) (N := n * h) (xs_le p) hw2 h1 hh e
    have m1 : n * h ≤ 8 * 100 := Nat.mul_le_mul n8 hh
    have m2 : 1 * 1 ≤ n * h := Nat.mul_le_mul n1 h1
    refine (sortP_any own (by omega) (by omega) (fun e => by have := hbd e; omega) (cmpLt_of (fun e => by have := hbd e; omega))).mono ?_
    rintro e w' ⟨he, s, hs, hc, hg⟩
    refine ⟨he, fun t ht => ?_, hg⟩
    have hs2 := DL_sorted hs
    have hth : t < n * h := Nat.lt_of_lt_of_le ht (Nat.le_mul_of_pos_left h n1)
    have hw := (sortD n1 hs2 (t + 1) (by omega)).2 t (by omega)
    have hst := (hs.in_ t (by omega) hth).2
    have c0 := hc t 0 hth (by omega)
    have c1 := hc t 1 hth (by omega)
    have c2 := hc t 2 hth (by omega)
    rw [LP_DL _ _ _ _ _ hst] at c0 c1 c2
    rw [hw] at c0
    exact ⟨_, _, c0, c1, c2⟩
  have HNX : Hid (∀ t, nextD wy n (xs P) t < n) := fun t => nextD_lt n1 t
  have HLE : Hid (∀ t, t ≤ h → ∀ i, i < n → seatT wy n (xs P) t i ≤ 100) := fun t ht i hi => by
    have := sN_mem (f := seatT wy n (xs P) t) hi
    rw [seatT_sum n1] at this
    omega
  have HST : Hid (∀ t, (natL n (seatT wy n (xs P) t)).set (nextD wy n (xs P) t) ((seatT wy n (xs P) t (nextD wy n (xs P) t) : Int) + 1) = natL n (seatT wy n (xs P) (t + 1))) := fun t => by
    refine natL_set n _ _ (nextD_lt n1 t) ?_ ?_
    · rw [seatT_nextD]; unfold up1; rw [if_pos rfl]; simp
    · intro i hi hne
      rw [seatT_nextD]; unfold up1; rw [if_neg hne]
  have HS0 : Hid ((fun _ => 0) = seatT wy n (xs P) 0) := rfl
  have e3 : ((wy : Int) == 3) = false := beq_eq_false_iff_ne.2 (by omega)
  generalize nextD wy n (xs P) = nx at *
  generalize seatT wy n (xs P) = S at *
  clear hr p hn
  go_enter Try.func13, Try.ntmps13
  go_wp2_with fail
  clear hmk
  generalize w.alloc (.cells (zeros n) 3) = w1 at *
  obtain ⟨ga, hga⟩ : ∃ ga, ga = w.heap.size := ⟨_, rfl⟩
  have hga0 : w.heap.size ≤ ga := by omega
  have hga1 : ga < w1.heap.size := by omega
  have oa0 : w1.ownsRow w.heap.size 3 1 (.slice (some ⟨ga, 0, none⟩) n n) n (I (natL n (fun _ => 0))) := by rw [hga]; exact own0
  rw [← hga]
  clear own0 hga hs0
  -- the sum of all people
  go_loop [8, 25] (fun sv iv => ∃ (k : Nat) (s : Int), k ≤ n ∧ iv = .int .i64 k ∧ sv = .int .i64 s ∧ 0 ≤ s ∧ s ≤ 1000000 * (k : Int)) (fun _ iv => n - (intOf iv).toNat)
  case atStart => exact ⟨0, 0, Nat.zero_le _, rfl, rfl, by omega, by omega⟩
  case round =>
    obtain ⟨k, s, hk, rfl, rfl, s1, s2⟩ := hrel
    by_cases hkn : k < n
    · obtain ⟨b, o, rfl, hb, hcell⟩ := HR.out.at_ hkn
      obtain ⟨x1, x2⟩ := HX.out k hkn
      rw [x1] at hcell
      have ck : w1.cell? ⟨b, o + k, none⟩ = some (.int .i64 (xs P k : Int)) := (hb0.cell (by show b < _; omega)).trans hcell
      clear hcell x1
      generalize xs P k = xk at *
      go_wp2
      go_round
      case rel => exact ⟨k + 1, s + xk, by omega, by go_num, rfl, by omega, by omega⟩
      case measure => simp [intOf]; omega
    · obtain rfl : k = n := by omega
      clear s1 s2
      go_wp2_with fail
      -- the parts
      go_loopw [11, 35] (fun lv iv wr => ∃ (i M : Nat), i ≤ k ∧ iv = .int .i64 i ∧ Hid (M = i * h) ∧ wr.ownsRow w.heap.size 44 3 lv M (F3 (DL (xs P) wy h M)) ∧ (∀ b, lv.ownBlock = some b → ga < b) ∧ wr.ownsRow w.heap.size 3 1 (.slice (some ⟨ga, 0, none⟩) k k) k (I (natL k (fun _ => 0))) ∧ Below w.heap.size w wr) (fun _ iv _ => k - (intOf iv).toNat)
      case atStart => exact ⟨0, 0, Nat.zero_le _, rfl, (show Hid _ from by show _ = _; simp), World.ownsRow_nil _ _ _ _, fun b hb => by simp [Value.ownBlock] at hb, oa0, hb0⟩
      case round =>
        obtain ⟨i, M, hi, rfl, HM, ol, hlb, oa, hbel⟩ := hrel
        clear oa0 hb0
        by_cases hik : i < k
        · obtain ⟨b, o, rfl, hb, hcell⟩ := HR.out.at_ hik
          obtain ⟨x1, x2⟩ := HX.out i hik
          rw [x1] at hcell
          have ck : wr.cell? ⟨b, o + i, none⟩ = some (.int .i64 (xs P i : Int)) := (hbel.cell (by show b < _; omega)).trans hcell
          have HDS : Hid (∀ j, j < h → DL (xs P) wy h (i * h + j + 1) = DL (xs P) wy h (i * h + j) ++ [((i : Int), (xs P i : Int), ((wy * j + 1 : Nat) : Int))]) := fun j hj => by
            rw [DL_succ, (at_div hj).1, (at_div hj).2]
          have hm8 : i * h ≤ 800 := Nat.mul_le_mul (show i ≤ 8 by omega) hh
          clear hcell x1
          generalize xs P i = xi at *
          have ol2 : wr.ownsRow w.heap.size 44 3 u11 (i * h + 0) (F3 (DL (xs P) wy h (i * h + 0))) := by rw [Nat.add_zero, ← HM.out]; exact ol
          clear ol
          obtain ⟨wo, rfl⟩ : ∃ wo, wo = wr := ⟨_, rfl⟩
          go_wp2_with fail
          clear ck
          go_loopw [11, 66] (fun lv jv wr => ∃ (j : Nat), j ≤ h ∧ jv = .int .i64 j ∧ wr.ownsRow w.heap.size 44 3 lv (i * h + j) (F3 (DL (xs P) wy h (i * h + j))) ∧ (∀ b, lv.ownBlock = some b → ga < b) ∧ wr.ownsRow w.heap.size 3 1 (.slice (some ⟨ga, 0, none⟩) k k) k (I (natL k (fun _ => 0))) ∧ Below w.heap.size w wr) (fun _ jv _ => h - (intOf jv).toNat)
          case atStart => exact ⟨0, Nat.zero_le _, rfl, ol2, hlb, oa, hbel⟩
          case round =>
            obtain ⟨j, hj, rfl, ol3, hlb3, oa3, hbel3⟩ := hrel
            clear ol2 hlb oa hbel
            have hz := hbel3.size
            by_cases hjh : j < h
            · have HD := Lib.hid (HDS.out j hjh)
              have m1 : wy * j ≤ 200 := Nat.le_trans (Nat.mul_le_mul hw2 (show j ≤ 100 by omega)) (by omega)
              have e1 : (wy : Int) * (j : Int) = ((wy * j : Nat) : Int) := by simp
              have e2 : ((wy * j + 1 : Nat) : Int) = ((wy * j : Nat) : Int) + 1 := by omega
              rw [e2] at HD
              generalize wy * j = u at *
              clear e2
              generalize DL (xs P) wy h (i * h + j) = dl at *
              generalize hN : i * h + j = N at *
              have hN8 : N ≤ 900 := by omega
              go_wp2_with (at_builtin; refine push3 rfl _ _ rfl wr w.heap.size _ N dl i xi ((u : Int) + 1) rfl rfl (by exact ol3) hz (by omega) ?_)
              intro g4 cap4 w4 own4 gr4 hg4 hg4'
              have hb4 := hbel3.grown gr4 hz (fun k hk => (ol3.lt k hk).1)
              have hlt := (oa3.lt ga rfl).2
              have oa4 := oa3.kept gr4 (.inr (by
                intro q
                have := hlb3 ga q.symm
                omega))
              have hlb4 : ∀ b, (Value.slice (some ⟨g4, 0, none⟩) (N + 1) cap4).ownBlock = some b → ga < b := fun b hb => by
                have e : g4 = b := by simpa [Value.ownBlock] using hb
                subst e
                rcases hg4 with q | q
                · exact hlb3 _ q
                · omega
              rw [← HD.out] at own4
              have own5 : w4.ownsRow w.heap.size 44 3 (.slice (some ⟨g4, 0, none⟩) (N + 1) cap4) (i * h + (j + 1)) (F3 (DL (xs P) wy h (i * h + (j + 1)))) := by
                rw [show i * h + (j + 1) = N + 1 by omega]; exact own4
              clear gr4 hbel3 ol3 oa3 hlb3 own4 hg4 hN HD
              go_wp2
              go_roundw
              case rel => exact ⟨j + 1, by omega, by go_num, own5, hlb4, oa4, hb4⟩
              case measure => simp [intOf]; omega
            · obtain rfl : j = h := by omega
              have HM2 : Hid (i * j + j = (i + 1) * j) := by show _ = _; rw [Nat.add_mul, Nat.one_mul]
              go_wp2
              go_roundw
              case rel => exact ⟨i + 1, i * j + j, by omega, by go_num, HM2, ol3, hlb3, oa3, hbel3⟩
              case measure => simp [intOf]; omega
        · obtain rfl : i = k := by omega
          have eM := HM.out
          subst eM
          clear HM
          have m1 : i * h ≤ 8 * 100 := Nat.mul_le_mul n8 hh
          have m2 : h ≤ i * h := Nat.le_mul_of_pos_left h n1
          have hpos : 0 < i * h := by omega
          have hform : ∃ g cap, u11 = Value.slice (some ⟨g, 0, none⟩) (i * h) cap ∧ i * h ≤ cap ∧ cap ≤ maxLen := by
            rcases ol.2 with ⟨_, q⟩ | ⟨g, cap, cur, q, _, _, q1, q2, _⟩
            · omega
            · exact ⟨g, cap, q, q1, q2⟩
          obtain ⟨g, cap, rfl, hc1, hc2⟩ := hform
          have hgg := hlb g rfl
          have hz := hbel.size
          have hgw := (ol.lt g rfl)
          have Q := Lib.hid (QS.out g cap wr ol)
          have OA := Lib.hid oa
          have HB := Lib.hid hbel
          unfold maxLen at hc2
          clear ol oa hbel hlb
          generalize hN : i * h = N at *
          clear hN
          go_wp2_with fail
          refine Q.out.mono ?_
          rintro e w3 ⟨rfl, hcells, hgr⟩
          have HCS := Lib.hid hcells
          have oa3 := OA.out.kept hgr (.inr (by intro q; injection q with q; have q : ga = g := q; omega))
          have hb3 := HB.out.grown hgr hz (fun y hy => by injection hy with hy; omega)
          clear Q OA HB hcells hgr
          go_wp2_with fail
          -- what is left: all
          go_loop [15, 86] (fun sv iv => ∃ t : Nat, t ≤ i ∧ iv = .int .i64 t ∧ sv = .int .i64 h) (fun _ iv => i - (intOf iv).toNat)
          case atStart => exact ⟨0, Nat.zero_le _, rfl, rfl⟩
          case round =>
            obtain ⟨t, ht, rfl, rfl⟩ := hrel
            by_cases hti : t < i
            · have ck := own_cell oa3 t hti
              rw [natL_at i _ hti] at ck
              go_wp2
              go_round
              case rel => exact ⟨t + 1, by omega, by go_num, by first | rfl | (congr 1; omega)⟩
              case measure => simp [intOf]; omega
            · obtain rfl : t = i := by omega
              rw [HS0.out] at oa3
              have hz3 := hb3.size
              have hcap : (h : Int) ≤ (cap : Int) := by omega
              go_wp2_with fail
              go_loopw [98] (fun iv wr => ∃ u : Nat, u ≤ h ∧ iv = .int .i64 u ∧ wr.ownsRow w.heap.size 3 1 (.slice (some ⟨ga, 0, none⟩) t t) t (I (natL t (S u))) ∧ Below w.heap.size w wr ∧ w3.grownBy wr (some ga)) (fun iv _ => h - (intOf iv).toNat)
              case atStart => exact ⟨0, Nat.zero_le _, rfl, oa3, hb3, grown_refl _ _⟩
              case round =>
                obtain ⟨u, hu, rfl, oa4, hb4, hg4⟩ := hrel
                clear oa3 hb3
                by_cases huh : u < h
                · obtain ⟨y, z, c0, c1, c2⟩ := HCS.out u huh
                  have hgl := World.block_lt_of_cell? w3 _ c0
                  have d0 : wr.cell? ⟨g, u * 3, none⟩ = some (.int .i64 (nx u : Nat)) := (hg4.cell_far _ (by exact hgl) (by intro e; injection e with e; have : g = ga := e; omega)).trans c0
                  have d1 : wr.cell? ⟨g, u * 3 + 1, none⟩ = some (.int .i64 y) := (hg4.cell_far _ (by exact hgl) (by intro e; injection e with e; have : g = ga := e; omega)).trans c1
                  have d2 : wr.cell? ⟨g, u * 3 + 2, none⟩ = some (.int .i64 z) := (hg4.cell_far _ (by exact hgl) (by intro e; injection e with e; have : g = ga := e; omega)).trans c2
                  have hnx := HNX.out u
                  have hst := HST.out u
                  have hle := HLE.out u hu (nx u) hnx
                  generalize nx u = b at *
                  have oa5 := oa4.alloc (.cells #[.int .i64 (b : Int), .int .i64 y, .int .i64 z] 44)
                  have ck := own_cell oa5 b hnx
                  rw [natL_at t _ hnx] at ck
                  have fk := oa5.frozenAt b
                  obtain ⟨s1, g1⟩ := oa5.stored b (.int .i64 ((S u b : Int) + 1))
                  have es : (I (natL t (S u))).set b (.int .i64 ((S u b : Int) + 1)) = I (natL t (S (u + 1))) := by
                    rw [← hst]; unfold I; rw [List.map_set]
                  rw [es] at s1
                  have hb5 := (hb4.alloc hb4.size (.cells #[.int .i64 (b : Int), .int .i64 y, .int .i64 z] 44))
                  have hb6 := hb5.grown g1 hb5.size (fun z hz2 => by injection hz2 with hz2; omega)
                  have hg6 := grown_trans (grown_trans hg4 (World.grownBy_alloc wr (.cells #[.int .i64 (b : Int), .int .i64 y, .int .i64 z] 44) (some ga))) g1
                  have cn : (wr.alloc (.cells #[.int .i64 (b : Int), .int .i64 y, .int .i64 z] 44)).cell? ⟨wr.heap.size, 0, none⟩ = some (.int .i64 (b : Int)) := by rw [World.cell?_alloc_new]; rfl
                  generalize S u b = sb at *
                  clear es g1 hst c0 c1 c2 oa4 hb4 hg4 hb5
                  go_wp2
                  go_roundw
                  case rel => exact ⟨u + 1, by omega, by go_num, s1, hb6, hg6⟩
                  case measure => simp [intOf]; omega
                · obtain rfl : u = h := by omega
                  go_wp2
                  go_ret
                  exact ⟨_, rfl, oa4, hb4⟩
end Go.Proofs.Ytedllchlhdjanaa

/-
  plumeref.SwingsOf at a right game: how many sets, and how many orders, each player turns, in rows of its own; nothing that was there is written.
-/
import Derived.Test.YtdoidajdfnbiiaaCHeavy
import Derived.Test.YtdoidajdfnbiiaaCAllOrders
import Derived.Test.YtdoidajdfnbiiaaCSides
import Derived.Test.YtdoidajdfnbiiaaPush
import Derived.Test.YtdoidajdfnbiiaaTwoMade
import Derived.Deep.DeepCutAuto
import Derived.BigQuiet
import Derived.BigRegion
import Derived.RegionTactic
import Derived.Deep.QuietTactic
namespace Go.Proofs.Ytdoidajdfnbiiaa
open Go.RowKit Fm
set_option linter.unusedVariables false

theorem bit1_at : ∀ s : Nat, s < 64 → ∀ x : Nat, x < 6 → (bits BinOp.and IntKind.i64 ((s : Int) / 2 ^ x) 1 == 1) = s.testBit x := by decide +kernel
theorem pw_atS {n : Nat} (h : n ≤ 6) : wrap64 (2 ^ n) = ((2 ^ n : Nat) : Int) := by
  have : n = 0 ∨ n = 1 ∨ n = 2 ∨ n = 3 ∨ n = 4 ∨ n = 5 ∨ n = 6 := by omega
  rcases this with rfl | rfl | rfl | rfl | rfl | rfl | rfl <;> decide +kernel
/-- The counts over the first t sets. -/
def fA (P : List Int) (n q t : Nat) (x : Int) : Int := (cS (turnB (wt P) n q x.toNat) t : Int)
theorem fA_zero (P : List Int) (n q : Nat) : List.replicate n 0 = (sides n).map (fA P n q 0) := by
  have h : (sides n).map (fA P n q 0) = (sides n).map (fun _ => 0) := map_sides_congr n (fun j hj => rfl)
  rw [h]
  exact zeroL n
theorem fA_next (P : List Int) (n q t j : Nat) : fA P n q (t + 1) (j : Int) = fA P n q t (j : Int) + if turnB (wt P) n q j t = true then 1 else 0 := by
  unfold fA
  rw [Int.toNat_natCast, cS_succ]
  split <;> simp
theorem tot_takeL (p : List Int) (φ : Int → Nat) (k : Nat) : tot (p.take k) φ ≤ tot p φ := by
  have e := List.take_append_drop k p
  have h : tot p φ = tot (p.take k) φ + tot (p.drop k) φ := by rw [← tot_append, e]
  omega
/-- The counts over the orders W, and over the first k places of p. -/
def fB (P : List Int) (n q : Nat) (W : List (List Int)) (p : List Int) (k : Nat) (x : Int) : Int := (W.countP (fun r => critP (wt P) n q r x) : Int) + if pos p x < k ∧ critP (wt P) n q p x = true then 1 else 0
theorem fB_zero {P : List Int} {n q : Nat} (W : List (List Int)) {p : List Int} (hp : p.Perm (sides n)) : fnL n (fun x => (W.countP (fun r => critP (wt P) n q r x) : Int)) = fnL n (fB P n q W p 0) := fnL_congr n (fun j hj => by
  have := pos_range hp hj
  unfold fB
  rw [if_neg (by omega), Int.add_zero])
theorem fB_end {P : List Int} {n q : Nat} (W : List (List Int)) {p : List Int} (hp : p.Perm (sides n)) : fnL n (fB P n q W p n) = fnL n (fun x => ((W ++ [p]).countP (fun r => critP (wt P) n q r x) : Int)) := fnL_congr n (fun j hj => by
  have := pos_range hp hj
  unfold fB
  rw [List.countP_append, List.countP_singleton]
  by_cases c : critP (wt P) n q p (j : Int) = true
  · rw [if_pos ⟨by omega, c⟩, if_pos c]; simp
  · rw [if_neg (fun h => c h.2), if_neg c]; simp)
theorem fB_at {P : List Int} {n q : Nat} (W : List (List Int)) {p : List Int} (hp : p.Perm (sides n)) {k x : Nat} (hk : k < n) (hx : p.getD k 0 = x) : fB P n q W p k (x : Int) = (W.countP (fun r => critP (wt P) n q r (x : Int)) : Int) := by
  unfold fB
  have : pos p (x : Int) = k := by rw [← hx]; exact pos_idx (perm_nodup hp) (by rw [perm_len hp]; exact hk)
  rw [if_neg (by omega), Int.add_zero]
theorem fB_yes {P : List Int} {n q : Nat} (W : List (List Int)) {p : List Int} (hp : p.Perm (sides n)) {k x : Nat} (hk : k < n) (hxn : x < n) (hx : p.getD k 0 = x) (c : critP (wt P) n q p (x : Int) = true) :
    (fnL n (fB P n q W p k)).set x ((W.countP (fun r => critP (wt P) n q r (x : Int)) : Int) + 1) = fnL n (fB P n q W p (k + 1)) := by
  rw [fnL_set n _ hxn]
  refine fnL_congr n (fun j hj => ?_)
  have hpx : pos p (x : Int) = k := by rw [← hx]; exact pos_idx (perm_nodup hp) (by rw [perm_len hp]; exact hk)
  by_cases e : (j : Int) = x
  · rw [if_pos e, e]; unfold fB; rw [if_pos ⟨by omega, c⟩]
  · rw [if_neg e]
    unfold fB
    have hne : pos p (j : Int) ≠ k := fun h => e (pos_inj (perm_nodup hp) (hp.mem_iff.2 (mem_sides.2 ⟨by omega, by omega⟩)) (hp.mem_iff.2 (mem_sides.2 ⟨by omega, by omega⟩)) (by rw [h, hpx]))
    by_cases h : pos p (j : Int) < k ∧ critP (wt P) n q p (j : Int) = true
    · rw [if_pos h, if_pos ⟨by omega, h.2⟩]
    · rw [if_neg h, if_neg (fun h2 => h ⟨by omega, h2.2⟩)]
theorem fB_no {P : List Int} {n q : Nat} (W : List (List Int)) {p : List Int} (hp : p.Perm (sides n)) {k x : Nat} (hk : k < n) (hx : p.getD k 0 = x) (c : critP (wt P) n q p (x : Int) = false) : fnL n (fB P n q W p k) = fnL n (fB P n q W p (k + 1)) := fnL_congr n (fun j hj => by
  unfold fB
  have hpx : pos p (x : Int) = k := by rw [← hx]; exact pos_idx (perm_nodup hp) (by rw [perm_len hp]; exact hk)
  by_cases h : pos p (j : Int) < k ∧ critP (wt P) n q p (j : Int) = true
  · rw [if_pos h, if_pos ⟨by omega, h.2⟩]
  · rw [if_neg h, if_neg]
    rintro ⟨h2, h3⟩
    have hk2 : pos p (j : Int) = k := by
      by_cases q : pos p (j : Int) < k
      · exact absurd ⟨q, h3⟩ h
      · omega
    have xm : (x : Int) ∈ p := by rw [← hx]; exact getD_mem p k (by rw [perm_len hp]; exact hk)
    have : (j : Int) = x := pos_inj (perm_nodup hp) (hp.mem_iff.2 (mem_sides.2 ⟨by omega, by omega⟩)) xm (by rw [hk2, hpx])
    rw [this, c] at h3
    cases h3)

def SwOut (P : List Int) (q : Nat) (w : World) (e : Ending) (w' : World) : Prop :=
  ∃ va vb, e = .returned (.tuple #[va, vb]) ∧ w'.ownsRow w.heap.size 3 1 va P.length (I (swL P q)) ∧ w'.ownsRow w.heap.size 3 1 vb P.length (I (tuL P q)) ∧ Below w.heap.size w w'

set_option maxHeartbeats 4000000 in
set_option maxRecDepth 100000 in
theorem swingsOf_any {P : List Int} {q n : Nat} (g : Wgt P q) (hn : P.length = n) (a : Option Addr) (c : Nat) (hc : n ≤ c) (hcm : c ≤ 9223372036854775807) (w : World) (hr : Rd w w.heap.size a n P) :
    Calls Try.prog 14 #[.slice a n c, .int .i64 q] w (SwOut P q w) := by
  have h1 := g.pos
  have h6 := g.le
  rw [hn] at h1 h6
  have hmk : ∀ W : World, (Instr.makeSlice 22 (.int .i64 n) (.int .i64 n)).run Try.prog W = .ok (.slice (some ⟨W.heap.size, 0, none⟩) n n) (W.alloc (.cells (zeros n) 3)) := make_ints n (by omega)
  have TW := Lib.hid (rows_made w n (by omega))
  have HG := Lib.hid g
  have HN := Lib.hid hn
  have HR := Lib.hid hr
  have hq1 := g.q1
  have hqs : q ≤ 6000 := by
    have h2 := g.q2
    have h3 : sN (wt P) P.length ≤ sN (fun _ => 1000) P.length := sN_le (fun i hi => (wt_at g.bd hi).2)
    have e1 : ∀ c m, sN (fun _ => c) m = c * m := fun c m => by
      induction m with
      | zero => rfl
      | succ m ih => rw [sN, ih, Nat.mul_succ]
    rw [e1] at h3
    omega
  clear g hn hr
  go_enter Try.func14, Try.ntmps14
  go_upto_region 1 with fail
  go_cut [6, 7] (fun s6 s7 wx => TwoRows w n (List.replicate n 0) (List.replicate n 0) s6 s7 wx)
  case first =>
    go_region
    all_goals
      go_wp2_with fail
      go_meet
      first
        | exact ⟨w.heap.size, w.heap.size + 1, rfl, rfl, by omega, TW.out.1, TW.out.2.1, ⟨TW.out.2.2.os, TW.out.2.2.tape, TW.out.2.2.output, TW.out.2.2.size, TW.out.2.2.block⟩⟩
        | exact ⟨w.heap.size + 1, w.heap.size, rfl, rfl, by omega, TW.out.2.1, TW.out.1, ⟨TW.out.2.2.os, TW.out.2.2.tape, TW.out.2.2.output, TW.out.2.2.size, TW.out.2.2.block⟩⟩
  case rest =>
    obtain ⟨ga, gb, rfl, rfl, hne, oa, ob, hb⟩ := hcut
    clear hmk TW
    obtain ⟨N, hNN⟩ : ∃ N : Nat, 2 ^ n = N := ⟨_, rfl⟩
    have hN64 : N ≤ 64 := by rw [← hNN]; exact pow_le6 h6
    have HPW : Hid (wrap64 (2 ^ n) = (N : Int)) := by show _ = _; rw [← hNN]; exact pw_atS h6
    have HCL : Hid (∀ i t, cS (turnB (wt P) n q i) t ≤ t) := fun i t => cS_le _ t
    have HTB : Hid (∀ i S, turnB (wt P) n q i S = (S.testBit i && (decide (q ≤ hv (wt P) n S) && decide (hv (wt P) n S < q + wt P i)))) := fun i S => rfl
    have HVB : Hid (∀ S, hv (wt P) n S ≤ 6000) := fun S => by
      have h2 := hv_le (W := wt P) (n := n) S
      have h3 : sN (wt P) n ≤ sN (fun _ => 1000) n := sN_le (fun i hi => (wt_at HG.out.bd (by rw [HN.out]; exact hi)).2)
      have e1 : ∀ c m, sN (fun _ => c) m = c * m := fun c m => by
        induction m with
        | zero => rfl
        | succ m ih => rw [sN, ih, Nat.mul_succ]
      rw [e1] at h3
      omega
    have QH : Hid (∀ (W : World) (S : Nat), S ≤ 1000000 → Below w.heap.size w W → Calls Try.prog 16 #[.slice a n c, .int .i64 S] W fun e w' => e = .returned (.int .i64 (hv (wt P) n S)) ∧ ∃ m, w' = W.drewN m) := fun W S hS hW => heavy_any HG.out.bd HN.out h6 hS a c W w.heap.size hc hcm (HR.out.below hW (Nat.le_refl _))
    have HWT : Hid (∀ i, i < n → P.getD i 0 = (wt P i : Int) ∧ wt P i ≤ 1000) := fun i hi => wt_at HG.out.bd (by rw [HN.out]; exact hi)
    have HSW : Hid (swL P q = (sides n).map (fA P n q N)) := by
      show _ = _
      unfold swL fnL
      rw [HN.out]
      refine map_sides_congr n (fun j hj => ?_)
      unfold fA swN
      rw [hNN]
    obtain ⟨bw, ow, rfl, hbw, hcw⟩ := HR.out.2 (by omega)
    have CW := Lib.hid hcw
    rw [fA_zero P n q] at oa
    have OB := Lib.hid ob
    clear hNN hcw ob
    go_wp2_with fail
    rw [HPW.out]
    go_loopw [24] (fun tv wr => ∃ t : Nat, t ≤ N ∧ tv = .int .i64 t ∧ wr.ownsRow w.heap.size 3 1 (.slice (some ⟨ga, 0, none⟩) n n) n (I ((sides n).map (fA P n q t))) ∧ wr.ownsRow w.heap.size 3 1 (.slice (some ⟨gb, 0, none⟩) n n) n (I (List.replicate n 0)) ∧ Below w.heap.size w wr) (fun tv _ => N - (intOf tv).toNat)
    case atStart => exact ⟨0, Nat.zero_le _, rfl, oa, OB.out, hb⟩
    case round =>
      obtain ⟨t, ht, rfl, oa1, ob1, hb1⟩ := hrel
      clear oa OB hb
      by_cases htN : t < N
      · rw [← mixL_zero n (fA P n q t) (fA P n q (t + 1))] at oa1
        obtain ⟨wo, rfl⟩ : ∃ wo, wo = wr := ⟨_, rfl⟩
        go_wp2_with fail
        go_loopw [29] (fun jv wr => ∃ j : Nat, j ≤ n ∧ jv = .int .i64 j ∧ wr.ownsRow w.heap.size 3 1 (.slice (some ⟨ga, 0, none⟩) n n) n (I (mixL n (fA P n q t) (fA P n q (t + 1)) j)) ∧ wr.ownsRow w.heap.size 3 1 (.slice (some ⟨gb, 0, none⟩) n n) n (I (List.replicate n 0)) ∧ Below w.heap.size w wr) (fun jv _ => n - (intOf jv).toNat)
        case atStart => exact ⟨0, Nat.zero_le _, rfl, oa1, ob1, hb1⟩
        case round =>
          obtain ⟨j, hj, rfl, oa2, ob2, hb2⟩ := hrel
          clear oa1 ob1 hb1
          have hz2 := hb2.size
          by_cases hjn : j < n
          · obtain ⟨x1, x2⟩ := HWT.out j hjn
            have rw1 : wr.cell? ⟨bw, ow + j, none⟩ = some (.int .i64 (wt P j)) := by rw [hb2.cell (by exact hbw), ← x1]; exact CW.out j hjn
            have hvb := HVB.out t
            have QHT : Hid (∀ i, Calls Try.prog 16 #[.slice (some ⟨bw, ow, none⟩) n c, .int .i64 t] (wr.drewN i) fun e w' => e = .returned (.int .i64 (hv (wt P) n t)) ∧ ∃ m, w' = (wr.drewN i).drewN m) := fun i => QH.out (wr.drewN i) t (by omega) (below_drewN hb2 i)
            have htb := HTB.out j t
            have hbit := bit1_at t (by omega) j (by omega)
            have hfn := fA_next P n q t j
            have hcl := HCL.out j t
            have hfv : fA P n q t (j : Int) = (cS (turnB (wt P) n q j) t : Int) := by unfold fA; rw [Int.toNat_natCast]
            have NO : Hid (turnB (wt P) n q j t = false → mixL n (fA P n q t) (fA P n q (t + 1)) j = mixL n (fA P n q t) (fA P n q (t + 1)) (j + 1)) := fun h => mixL_same n _ _ (by rw [hfn, h]; simp)
            clear x1
            generalize hv (wt P) n t = H at *
            generalize wt P j = wj at *
            by_cases c1 : t.testBit j = true
            · rw [c1] at hbit htb
              by_cases c2 : q ≤ H
              · by_cases c3 : H < q + wj
                · have hyes : turnB (wt P) n q j t = true := by rw [htb, decide_eq_true c2, decide_eq_true c3]; rfl
                  rw [if_pos hyes, hfv] at hfn
                  have cell1 := own_cell oa2 j hjn
                  have froz1 := oa2.frozenAt j
                  rw [mixL_at n _ _ hjn, hfv] at cell1
                  obtain ⟨s1, g1⟩ := oa2.stored j (.int .i64 ((cS (turnB (wt P) n q j) t : Int) + 1))
                  have es : (I (mixL n (fA P n q t) (fA P n q (t + 1)) j)).set j (.int .i64 ((cS (turnB (wt P) n q j) t : Int) + 1)) = I (mixL n (fA P n q t) (fA P n q (t + 1)) (j + 1)) := by
                    rw [← mixL_set n _ _ hjn, hfn]; unfold I; rw [List.map_set]
                  rw [es] at s1
                  have o2' := ob2.kept g1 (.inr (by intro h; injection h with h; exact hne h.symm))
                  have hb3 := hb2.grown g1 hz2 (fun y hy => by injection hy with hy; have := (oa2.lt ga rfl).1; omega)
                  have q2 : (q : Int) ≤ (H : Int) := by omega
                  have q3 : (H : Int) - (wj : Int) < (q : Int) := by omega
                  generalize cS (turnB (wt P) n q j) t = cc at *
                  clear es g1 oa2 ob2 hb2 NO htb hfn hfv hyes
                  go_wp2_with fail
                  go_quiet ((go_at_call 16; exact Calls.quiet_of (QHT.out _)))
                  go_wp2_with fail
                  clear hbit QHT
                  go_wp2
                  go_roundw
                  case rel => exact ⟨j + 1, by omega, by go_num, own_drewN s1 _, own_drewN o2' _, below_drewN hb3 _⟩
                  case measure => simp [intOf]; omega
                · have HNO := Lib.hid (NO.out (by rw [htb, decide_eq_true c2, decide_eq_false c3]; rfl))
                  rw [HNO.out] at oa2
                  have q2 : (q : Int) ≤ (H : Int) := by omega
                  have q3 : decide ((H : Int) - (wj : Int) < (q : Int)) = false := decide_eq_false (by omega)
                  clear NO htb hfn hfv HNO hcl
                  go_wp2_with fail
                  go_quiet ((go_at_call 16; exact Calls.quiet_of (QHT.out _)))
                  clear hbit QHT
                  go_wp2
                  go_roundw
                  case rel => exact ⟨j + 1, by omega, by go_num, own_drewN oa2 _, own_drewN ob2 _, below_drewN hb2 _⟩
                  case measure => simp [intOf]; omega
              · have HNO := Lib.hid (NO.out (by rw [htb, decide_eq_false c2]; rfl))
                rw [HNO.out] at oa2
                have q2 : decide ((q : Int) ≤ (H : Int)) = false := decide_eq_false (by omega)
                have q2' : decide (q ≤ H) = false := decide_eq_false (by omega)
                clear NO htb hfn hfv HNO hcl
                go_wp2_with fail
                go_quiet ((go_at_call 16; exact Calls.quiet_of (QHT.out _)))
                clear hbit QHT
                go_wp2
                go_roundw
                case rel => exact ⟨j + 1, by omega, by go_num, own_drewN oa2 _, own_drewN ob2 _, below_drewN hb2 _⟩
                case measure => simp [intOf]; omega
            · have c1' : t.testBit j = false := by simpa using c1
              rw [c1'] at hbit htb
              have HNO := Lib.hid (NO.out (by rw [htb]; rfl))
              rw [HNO.out] at oa2
              clear NO htb hfn hfv HNO hcl c1 c1'
              go_wp2_with fail
              go_quiet ((go_at_call 16; exact Calls.quiet_of (QHT.out _)))
              clear hbit QHT
              go_wp2
              go_roundw
              case rel => exact ⟨j + 1, by omega, by go_num, own_drewN oa2 _, own_drewN ob2 _, below_drewN hb2 _⟩
              case measure => simp [intOf]; omega
          · obtain rfl : j = n := by omega
            rw [mixL_end] at oa2
            go_wp2
            go_roundw
            case rel => exact ⟨t + 1, by omega, by go_num, oa2, ob2, hb2⟩
            case measure => simp [intOf]; omega
      · obtain rfl : t = N := by omega
        rw [← HSW.out] at oa1
        have HAL : Hid (∀ p ∈ allO n, p.Perm (sides n)) := fun p hp => mem_allO.1 hp
        have hl7 := allO_le h1 h6
        have hlp : 0 < (allO n).length := by rw [allO_len h1 h6]; exact fact_ge n
        have HTU : Hid (tuL P q = fnL n (fun x => ((allO n).countP (fun r => critP (wt P) n q r x) : Int))) := by
          show _ = _
          unfold tuL
          rw [HN.out]
          refine fnL_congr n (fun j hj => ?_)
          unfold tuN
          rw [Int.toNat_natCast]
        have HTS : Hid (∀ p : List Int, p.Perm (sides n) → ∀ k, tot (p.take k) (wI (wt P)) ≤ 6000) := fun p hp k => by
          have h2 := tot_takeL p (wI (wt P)) k
          rw [tot_W hp, tot_sN] at h2
          have h3 : sN (wt P) n ≤ sN (fun _ => 1000) n := sN_le (fun i hi => (HWT.out i hi).2)
          have e1 : ∀ c m, sN (fun _ => c) m = c * m := fun c m => by
            induction m with
            | zero => rfl
            | succ m ih => rw [sN, ih, Nat.mul_succ]
          rw [e1] at h3
          omega
        have QO : Hid (∀ a c W, n ≤ c → c ≤ maxLen → Rd W W.heap.size a n (sides n) → Calls Try.prog 27 #[.slice a n c] W (OrdersOut n (sides n) W)) := fun a c W q1 q2 q3 => allOrders_any n h6 (sides n) a c W W.heap.size (sides_len n) (Nat.le_refl _) q1 q2 q3
        have ePO : perms n (sides n) = allO n := rfl
        unfold OrdersOut at QO
        rw [ePO] at QO
        clear QH HVB HTB HCL HSW HPW ePO
        have hz1 := hb1.size
        go_wp2_with fail
        refine (sides_any n wr (by omega)).mono ?_
        rintro e w4 ⟨v4, rfl, o4, hb4⟩
        obtain ⟨a4, c4, rfl, hc4, hm4⟩ := own_slice o4
        go_wp2_with fail
        refine (QO.out a4 c4 w4 hc4 hm4 (Rd.of_own o4)).mono ?_
        rintro e w5 ⟨v5, vs5, rfl, o5, el5, hb5⟩
        obtain ⟨g5, c5, rfl, hg5, hg5'⟩ := o5.form hlp
        have hb45 := hb4.trans (hb5.mono hb4.size)
        have oa5 := own_below oa1 hb45 (Nat.le_refl _)
        have ob5 := own_below ob1 hb45 (Nat.le_refl _)
        have hb05 := hb1.trans (hb45.mono hz1)
        have hgb1 := (ob1.lt gb rfl)
        have hz4 := hb4.size
        have OA := Lib.hid oa5
        have O5 := Lib.hid o5
        have EL := Lib.hid el5
        have HB5 := Lib.hid hb05
        have hng : g5 ≠ gb := fun e => by omega
        clear oa1 ob1 hb1 o4 hb4 hb5 hb45 oa5 o5 el5 QO hz1
        have ob6 : w5.ownsRow w.heap.size 3 1 (.slice (some ⟨gb, 0, none⟩) n n) n (I (fnL n (fun x => ((((allO n).take 0).countP (fun r => critP (wt P) n q r x) : Nat) : Int)))) := by
          rw [zeroL n] at ob5; exact ob5
        clear ob5 hb05
        generalize allO n = L at *
        go_wp2_with fail
        go_loopw [69] (fun tv wr => ∃ t : Nat, t ≤ L.length ∧ tv = .int .i64 t ∧ wr.ownsRow w.heap.size 3 1 (.slice (some ⟨gb, 0, none⟩) n n) n (I (fnL n (fun x => (((L.take t).countP (fun r => critP (wt P) n q r x) : Nat) : Int)))) ∧ w5.grownBy wr (some gb)) (fun tv _ => L.length - (intOf tv).toNat)
        case atStart => exact ⟨0, Nat.zero_le _, rfl, ob6, grown_refl _ _⟩
        case round =>
          obtain ⟨s, hs, rfl, ob1, hg1⟩ := hrel
          clear ob6
          by_cases hsL : s < L.length
          · obtain ⟨u, hu, hou⟩ := EL.out.at_ hsL
            have hperm := HAL.out _ (memR hsL)
            have hql := perm_len hperm
            rw [hql] at hou
            obtain ⟨gu, cu, rfl, hgu, hgu', hnc, _, hcu⟩ := own_form hou (by omega)
            have hngu : gu ≠ gb := fun e => by omega
            have hck : wr.cell? ⟨g5, s, none⟩ = some (.slice (some ⟨gu, 0, none⟩) n cu) := by
              rw [hg1.cell_far _ (by exact hg5') (by intro e; injection e with e; exact hng e), O5.out.cellAt s (by omega)]
              exact hu
            have HCU : Hid (∀ j, j < n → w5.cell? ⟨gu, j, none⟩ = some (.int .i64 ((L.getD s []).getD j 0))) := hcu
            have HP := Lib.hid hperm
            have hsn : L.take (s + 1) = L.take s ++ [L.getD s []] := by
              rw [List.take_succ_eq_append_getElem hsL, List.getD_eq_getElem?_getD, List.getElem?_eq_getElem hsL]; rfl
            have HSN := Lib.hid hsn
            have hcl : ∀ x, (L.take s).countP (fun r => critP (wt P) n q r x) ≤ 720 := fun x => Nat.le_trans List.countP_le_length (by rw [List.length_take]; omega)
            have HCL := Lib.hid hcl
            rw [fB_zero (L.take s) hperm] at ob1
            clear hu hou hperm hql hcu hsn hcl
            generalize L.getD s [] = p at *
            generalize L.take s = W0 at *
            obtain ⟨wo, rfl⟩ : ∃ wo, wo = wr := ⟨_, rfl⟩
            go_wp2_with fail
            clear hck
            go_loopw [12, 75] (fun sv kv wr => ∃ k : Nat, k ≤ n ∧ kv = .int .i64 k ∧ sv = .int .i64 (tot (p.take k) (wI (wt P))) ∧ wr.ownsRow w.heap.size 3 1 (.slice (some ⟨gb, 0, none⟩) n n) n (I (fnL n (fB P n q W0 p k))) ∧ w5.grownBy wr (some gb)) (fun _ kv _ => n - (intOf kv).toNat)
            case atStart => exact ⟨0, Nat.zero_le _, rfl, rfl, ob1, hg1⟩
            case round =>
              obtain ⟨k, hk, rfl, rfl, ob2, hg2⟩ := hrel
              clear ob1 hg1
              by_cases hkn : k < n
              · have hxm := mem_sides.1 (HP.out.mem_iff.1 (getD_mem p k (by rw [perm_len HP.out]; exact hkn)))
                obtain ⟨x, hx⟩ : ∃ x : Nat, p.getD k 0 = x := ⟨(p.getD k 0).toNat, by omega⟩
                have hxn : x < n := by omega
                have r1 : wr.cell? ⟨gu, k, none⟩ = some (.int .i64 x) := by
                  rw [hg2.cell_far _ (by exact hgu') (by intro e; injection e with e; exact hngu e), HCU.out k hkn, hx]
                obtain ⟨x1, x2⟩ := HWT.out x hxn
                have hbw5 : bw < w5.heap.size := Nat.lt_of_lt_of_le hbw HB5.out.size
                have r2 : wr.cell? ⟨bw, ow + x, none⟩ = some (.int .i64 (wt P x)) := by
                  rw [hg2.cell_far _ (by exact hbw5) (by intro e; injection e with e; have : bw = gb := e; omega), HB5.out.cell (by exact hbw), CW.out x hxn, x1]
                have hT := HTS.out p HP.out k
                have hpre := pre_take (W := wt P) HP.out hkn
                rw [hx] at hpre
                have hcr : critP (wt P) n q p (x : Int) = (decide (tot (p.take k) (wI (wt P)) < q) && decide (q ≤ tot (p.take k) (wI (wt P)) + wt P x)) := by
                  unfold critP
                  rw [hpre]
                  unfold wI
                  rw [Int.toNat_natCast]
                have HTN : Hid (tot (p.take (k + 1)) (wI (wt P)) = tot (p.take k) (wI (wt P)) + wt P x) := by
                  show _ = _
                  rw [take_succ_getD p k (by rw [perm_len HP.out]; exact hkn), tot_append, tot_cons, tot_nil, hx]
                  unfold wI
                  rw [Int.toNat_natCast]; omega
                have HFAT := Lib.hid (fB_at (P := P) (q := q) W0 HP.out hkn hx)
                have HYES : Hid (critP (wt P) n q p (x : Int) = true → (fnL n (fB P n q W0 p k)).set x ((W0.countP (fun r => critP (wt P) n q r (x : Int)) : Int) + 1) = fnL n (fB P n q W0 p (k + 1))) := fun h => fB_yes W0 HP.out hkn hxn hx h
                have HNO : Hid (critP (wt P) n q p (x : Int) = false → fnL n (fB P n q W0 p k) = fnL n (fB P n q W0 p (k + 1))) := fun h => fB_no W0 HP.out hkn hx h
                have hc7 := HCL.out (x : Int)
                clear hx hpre x1
                generalize tot (p.take k) (wI (wt P)) = T at *
                generalize wt P x = wx at *
                by_cases c1 : T < q
                · by_cases c2 : q ≤ T + wx
                  · have hy := HYES.out (by rw [hcr, decide_eq_true c1, decide_eq_true c2]; rfl)
                    have cell1 := own_cell ob2 x hxn
                    have froz1 := ob2.frozenAt x
                    rw [fnL_at n _ hxn, HFAT.out] at cell1
                    obtain ⟨s1, g1⟩ := ob2.stored x (.int .i64 ((W0.countP (fun r => critP (wt P) n q r (x : Int)) : Int) + 1))
                    have es : (I (fnL n (fB P n q W0 p k))).set x (.int .i64 ((W0.countP (fun r => critP (wt P) n q r (x : Int)) : Int) + 1)) = I (fnL n (fB P n q W0 p (k + 1))) := by
                      rw [← hy]; unfold I; rw [List.map_set]
                    rw [es] at s1
                    have hg3 := grown_trans hg2 g1
                    have r3 := (g1.cell_far ⟨bw, ow + x, none⟩ (by exact Nat.lt_of_lt_of_le hbw5 hg2.size) (by intro e; injection e with e; have : bw = gb := e; omega)).trans r2
                    generalize W0.countP (fun r => critP (wt P) n q r (x : Int)) = cc at *
                    have q1 : (T : Int) < (q : Int) := by omega
                    have q2 : (q : Int) ≤ (T : Int) + (wx : Int) := by omega
                    clear es g1 ob2 hg2 hy HYES HNO hcr HFAT
                    go_wp2
                    go_roundw
                    case rel => exact ⟨k + 1, by omega, by go_num, by rw [HTN.out]; go_num, s1, hg3⟩
                    case measure => simp [intOf]; omega
                  · have hno := HNO.out (by rw [hcr, decide_eq_false c2, Bool.and_false])
                    rw [hno] at ob2
                    have q1 : (T : Int) < (q : Int) := by omega
                    have q2 : ¬ (q : Int) ≤ (T : Int) + (wx : Int) := by omega
                    clear hno HYES HNO hcr HFAT
                    go_wp2
                    go_roundw
                    case rel => exact ⟨k + 1, by omega, by go_num, by rw [HTN.out]; go_num, ob2, hg2⟩
                    case measure => simp [intOf]; omega
                · have hno := HNO.out (by rw [hcr, decide_eq_false c1, Bool.false_and])
                  rw [hno] at ob2
                  have q1 : ¬ (T : Int) < (q : Int) := by omega
                  clear hno HYES HNO hcr HFAT
                  go_wp2
                  go_roundw
                  case rel => exact ⟨k + 1, by omega, by go_num, by rw [HTN.out]; go_num, ob2, hg2⟩
                  case measure => simp [intOf]; omega
              · obtain rfl : k = n := by omega
                rw [fB_end W0 HP.out, ← HSN.out] at ob2
                go_wp2
                go_roundw
                case rel => exact ⟨s + 1, by omega, by go_num, ob2, hg2⟩
                case measure => simp [intOf]; omega
          · obtain rfl : s = L.length := by omega
            rw [List.take_of_length_le (Nat.le_refl _), ← HTU.out] at ob1
            have oa9 := OA.out.kept hg1 (.inr (by intro h; injection h with h; exact hne h))
            have hb9 := HB5.out.grown hg1 HB5.out.size (fun y hy => by injection hy with hy; omega)
            go_wp2
            go_ret2
            exact ⟨_, _, rfl, by rw [HN.out]; exact oa9, by rw [HN.out]; exact ob1, hb9⟩
end Go.Proofs.Ytdoidajdfnbiiaa

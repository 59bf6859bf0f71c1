/-
  plumetop.TopOrder returns true, for every int and every slice of ints, if duel.Votes, tally.Duels, middle.Best, widest.Winners, duel.Top, rules.Winners and worth.Share keep their contracts; nothing that was there is written.
-/
import Derived.Test.YthcaipnlgbnfkaaM3
import Derived.Test.YthcaipnlgbnfkaaM4
import Derived.Test.YthcaipnlgbnfkaaPureA
import Derived.Test.YthcaipnlgbnfkaaM6
import Derived.Test.YthcaipnlgbnfkaaCTopG
import Derived.Deep.AppendLies
import Derived.Deep.RegionLaw
import Derived.BigQuiet
import Derived.Deep.QuietTactic
namespace Go.Proofs.Ythcaipnlgbnfkaa
open Go.RowKit Fm
set_option linter.unusedVariables false

theorem tabIn_smallT {w : World} {a : Option Addr} {n : Nat} {M : List (List Int)} (h : RdR w w.heap.size a n M) (hn : n ≤ 1000) (hl : ∀ l ∈ M, l.length ≤ 1000) : TabIn w a n M :=
  ⟨w.heap.size, Nat.le_refl _, h, by omega, fun l hl' => by have := hl l hl'; omega⟩

/-- The pairs so far, in rows of the call's own. -/
structure Prs (w3 : World) (wr : World) (v : Value) (Bt : List (List Int)) : Prop where
  ex : ∃ vs, wr.ownsRow w3.heap.size 22 1 v Bt.length vs ∧ Elems wr w3.heap.size 3 vs Bt
  bel : Below w3.heap.size w3 wr

set_option maxHeartbeats 4000000 in
set_option maxRecDepth 100000 in
theorem topOrder_is (dV : DVotes) (tD : TDuelsM) (mB : MBest) (wW : WWin) (dT : DTop) (rW : RWin) (sS : WShare) (n0 : Int) (hn0 : -9223372036854775808 ≤ n0) (hn1 : n0 ≤ 9223372036854775807) (vx : Value) (X : List Int) {w : World} (fx : IsInts w vx X) :
    Calls Try.prog 10 #[.int .i64 n0, vx] w fun e w' => e = .returned (.bool true) ∧ Below w.heap.size w w' := by
  obtain ⟨ax, cx, rfl, hrx, hox, hlx, _, hcx, h8x⟩ := fx
  have HRX := Lib.hid hrx
  have HOX := Lib.hid hox
  have W0 : Hid (∀ W, Calls Try.prog 42 #[] W fun e w' => e = .returned (.bool true) ∧ Below W.heap.size W w') := fun W => works_any sS W
  have DV : Hid DVotes := dV
  have TD : Hid TDuelsM := tD
  have MB : Hid MBest := mB
  have WW : Hid WWin := wW
  have DT : Hid DTop := dT
  have RW : Hid RWin := rW
  clear dV tD mB wW dT rW sS hrx hox
  go_enter Try.func10, Try.ntmps10
  go_wp2_with fail
  refine (within_any n0 6 w hn0 hn1 (by omega) (by omega)).mono ?_
  rintro e w1' ⟨rfl, rfl⟩
  obtain ⟨n, hn⟩ : ∃ n : Nat, 1 + n0 % 6 = n := ⟨(1 + n0 % 6).toNat, by omega⟩
  have h1 : 1 ≤ n := by omega
  have h6 : n ≤ 6 := by omega
  have e6 : n0 % 6 = (n : Int) - 1 := by omega
  rw [e6]
  have en : 1 + ((n : Int) - 1) = n := by omega
  clear hn e6 hn0 hn1
  go_wp2_with fail
  refine (orderOf_any n ax X.length cx X w w.heap.size (Nat.le_refl _) HRX.out h1 (by omega) HOX.out).mono ?_
  rintro e w3 ⟨v3, rfl, o3, hb3⟩
  obtain ⟨p1, cp, rfl, hcp, _⟩ := own_slice o3
  have HNP := Lib.hid (ordOf_perm n X)
  have r3 := Rd.of_own o3
  generalize ordOf n X = p at *
  obtain ⟨bp, op, e3', hbp, hcpl⟩ := r3.2 (by omega)
  subst e3'
  have HCP : Hid (∀ j, j < n → w3.cell? ⟨bp, op + j, none⟩ = some (.int .i64 (p.getD j 0))) := hcpl
  have RP := Lib.hid r3
  have HPX : Hid (∀ i, i < n → ∃ x : Nat, p.getD i 0 = x ∧ x < n) := fun i hi => at_nat HNP.out hi
  have HP0 : Hid (Prs w3 w3 (.slice none 0 0) (prA p 0)) := ⟨⟨[], World.ownsRow_nil _ _ _ _, Elems.nil_⟩, Below.refl _ w3⟩
  have hpl := perm_len HNP.out
  have HPL := Lib.hid hpl
  have HLA : Hid (∀ i, i ≤ n → (prA p i).length ≤ 36) := fun i hi => by
    have h1 := prA_le p i
    rw [hpl] at h1
    have h2 : i * n ≤ 6 * 6 := Nat.mul_le_mul (by omega) h6
    omega
  clear o3 HRX HOX hlx hcx h8x hcpl r3 hpl
  go_wp2_with fail
  go_loopw [6, 32] (fun bv iv wr => ∃ i : Nat, i ≤ n ∧ iv = .int .i64 i ∧ Prs w3 wr bv (prA p i)) (fun _ iv _ => n - (intOf iv).toNat)
  case atStart => exact ⟨0, Nat.zero_le _, rfl, HP0.out⟩
  case round =>
    obtain ⟨i, hi, rfl, HP⟩ := hrel
    clear HP0
    have HP := Lib.hid HP
    by_cases hin : i < n
    · have HQ0 : Hid (Prs w3 wr u6 (prA p i ++ prI p i (i + 1))) := by show Prs _ _ _ _; rw [prI_nil p i (i + 1) (Nat.le_refl _), List.append_nil]; exact HP.out
      have d1 : decide ((i : Int) < (n : Int)) = true := decide_eq_true (by omega)
      clear HP
      obtain ⟨wo, rfl⟩ : ∃ wo, wo = wr := ⟨_, rfl⟩
      go_wp2_with fail
      go_loopw [6, 8] (fun bv kv wr => ∃ k : Nat, i < k ∧ k ≤ n ∧ kv = .int .i64 k ∧ Prs w3 wr bv (prA p i ++ prI p i k)) (fun _ kv _ => n - (intOf kv).toNat)
      case atStart => exact ⟨i + 1, by omega, by omega, by go_num, HQ0.out⟩
      case round =>
        obtain ⟨k, hik, hk, rfl, HQ⟩ := hrel
        clear HQ0
        by_cases hkn : k < n
        · obtain ⟨x, hx, hxn⟩ := HPX.out i hin
          obtain ⟨y, hy, hyn⟩ := HPX.out k hkn
          obtain ⟨⟨vs, hv, hel⟩, hbel⟩ := HQ
          have rx : wr.cell? ⟨bp, op + i, none⟩ = some (.int .i64 x) := by rw [hbel.cell (by exact hbp), HCP.out i hin, hx]
          have ry : wr.cell? ⟨bp, op + k, none⟩ = some (.int .i64 y) := by rw [hbel.cell (by exact hbp), HCP.out k hkn, hy]
          have HNX : Hid (prA p i ++ prI p i (k + 1) = (prA p i ++ prI p i k) ++ [[(x : Int), (y : Int)]]) := by show _ = _; rw [prI_next p hik, hx, hy, List.append_assoc]
          have hlen : (prA p i ++ prI p i k).length ≤ 42 := by
            rw [List.length_append]
            have := HLA.out i hi
            have := prI_len p i k
            omega
          clear hx hy
          generalize prA p i ++ prI p i k = Bt at *
          have hz := hbel.size
          have oxy := own_lit wr.drew 3 [(x : Int), (y : Int)] #[.int .i64 x, .int .i64 y] rfl (by unfold maxLen; simp)
          have hv1 : (wr.drew.alloc (.cells #[.int .i64 x, .int .i64 y] 3)).ownsRow w3.heap.size 22 1 u6 Bt.length vs := (own_drewN hv 1).alloc _
          have hz1 : w3.heap.size ≤ (wr.drew.alloc (.cells #[.int .i64 x, .int .i64 y] 3)).heap.size := by simp; omega
          go_wp2_with fail
          go_region_law (refine stepPushSb rfl _ _ rfl (wr.drew.alloc (.cells #[.int .i64 x, .int .i64 y] 3)) w3.heap.size u6 Bt.length vs (some ⟨wr.heap.size, 0, none⟩) 2 2 (wr.heap.size + 1) (by simp) rfl rfl hv1 hz1 (by omega) ?_; intro g5 cap5 w5 o5 gr5 hg6 hg7)
          all_goals
            have hbA : Below wr.heap.size wr (wr.drew.alloc (.cells #[.int .i64 x, .int .i64 y] 3)) := (below_drewN (Below.refl _ wr) 1).alloc (Nat.le_refl _) _
            have hkind : ∀ z, Value.ownBlock u6 = some z → z < w3.heap.size ∨ ∃ c t, (wr.drew.alloc (.cells #[.int .i64 x, .int .i64 y] 3)).heap[z]? = some (.cells c t (0, 0)) ∧ t ≠ 3 := fun z hz => by
              obtain ⟨c, hc⟩ := own_kind hv1 hz
              exact .inr ⟨c, _, hc, by decide⟩
            have hel5 := (hel.below hbA (Nat.le_refl _)).kept gr5 hkind
            have o6 := oxy.kept gr5 (own_far hv1 oxy (by decide))
            have hbl5 := (hbel.trans (hbA.mono hz)).grown gr5 (by omega) (fun z hz2 => (hv1.lt _ hz2).1)
            have hel6 := hel5.snoc (l := [(x : Int), (y : Int)]) (own_mono o6 hz)
            have HQN : Hid (Prs w3 w5 (.slice (some ⟨g5, 0, none⟩) (Bt.length + 1) cap5) (prA p i ++ prI p i (k + 1))) := by
              show Prs _ _ _ _
              rw [HNX.out]
              exact ⟨⟨_, by rw [List.length_append]; exact o5, hel6⟩, hbl5⟩
            clear hkind hel5 o6 hbl5 hel6 o5 gr5 hg6 hg7 hv hel hbel hv1 hz1 oxy hbA rx ry HNX
            go_wp2
            go_roundw
            case rel => exact ⟨k + 1, by omega, by omega, by go_num, HQN.out⟩
            case measure => simp [intOf]; omega
        · obtain rfl : k = n := by omega
          have HQN : Hid (Prs w3 wr u6 (prA p (i + 1))) := by show Prs _ _ _ _; rw [prA, HPL.out]; exact HQ
          clear HQ
          go_wp2
          go_roundw
          case rel => exact ⟨i + 1, by omega, by go_num, HQN.out⟩
          case measure => simp [intOf]; omega
    · obtain rfl : i = n := by omega
      obtain ⟨⟨vs, hv, hel⟩, hbel⟩ := HP.out
      have HBT := Lib.hid (prA_bears h6 HNP.out)
      have HBC := Lib.hid (prA_bchk h1 h6 HNP.out)
      have HVC := Lib.hid (prA_vchk h1 h6 HNP.out)
      have hl15 := prA_len h6 HNP.out
      have HML := Lib.hid (mcg_lenT i (prA p i))
      have HOKP := Lib.hid (prA_ok HNP.out)
      obtain ⟨va, vc, rfl, hvc, hvm⟩ : ∃ va vc, u6 = .slice va (prA p i).length vc ∧ (prA p i).length ≤ vc ∧ vc ≤ maxLen := by
        obtain ⟨va, vc, e1, e2, e3, _⟩ := own_sliceV hv
        exact ⟨va, vc, e1, e2, e3⟩
      have RB := Lib.hid (RdR.of_own hv rfl hel)
      have HB3 := Lib.hid (ext_trans hb3 hbel)
      have RP2 := Lib.hid (rd_ext RP.out hbel)
      have hbpw : bp < wr.heap.size := Nat.lt_of_lt_of_le hbp hbel.size
      clear HP hv hel hbel HCP HLA hb3 RP hbp
      generalize prA p i = L at *
      -- the seven ways of asking
      have TIL : TabIn wr va L.length L := tabIn_smallT RB.out (by omega) (fun l hl => by have := (HOKP.out l hl).1; omega)
      go_wp2_with fail
      refine (DV.out i va L.length vc L wr TIL HBC.out).mono ?_
      rintro e w4 ⟨a4, c4, rfl, hc4, hm4, r4, hb4⟩
      have HV30 : (mcg i L).length ≤ 30 := by rw [HML.out]; omega
      have HPV : Hid (∀ q ∈ mcg i L, q.Perm (sides i)) := vpermT HVC.out
      clear TIL HML HOKP DV RB
      generalize mcg i L = V at *
      have TV : Hid (∀ W, Below w4.heap.size w4 W → TabIn W a4 V.length V) := fun W hW => tabIn_smallT (rdr_ext r4 hW) (by omega) (fun l hl => by rw [perm_len (HPV.out l hl)]; omega)
      have HM : Hid (tchk (duelsM i V) = 0) := tchk_duels h1 h6 HV30
      have HDL := duelsM_len i V
      have HDR : Hid (∀ l ∈ duelsM i V, l.length = i) := fun l hl => duelsM_rows hl
      obtain ⟨x, hx, hxn⟩ := HPX.out 0 (by omega)
      have hbt : Beats i V x := bears_beats h1 HNP.out HBT.out hx
      have E1 := Lib.hid (bears_best h1 h6 HPV.out HNP.out HBT.out)
      have E2 := Lib.hid (beats_winP h1 h6 HV30 hbt)
      have E3 := Lib.hid (beats_topL hbt)
      have E4 := Lib.hid (beats_wins hbt)
      have E5 := Lib.hid (beats_worst hbt)
      have EX := Lib.hid hx
      have HR3 : Hid (rchk 3 i V = 0) := by show _ = _; unfold rchk; rw [if_neg (by omega)]; exact HVC.out
      have HR4 : Hid (rchk 4 i V = 0) := by show _ = _; unfold rchk; rw [if_neg (by omega)]; exact HVC.out
      have hb04 := ext_trans HB3.out hb4
      have RV4 := Lib.hid r4
      clear hbt HBT hx r4 HPX
      go_wp2_with fail
      refine (TD.out i a4 V.length c4 V w4 w4.heap.size (Nat.le_refl _) RV4.out (by omega) HVC.out).mono ?_
      rintro e w5 ⟨a5, c5, rfl, hc5, hm5, r5, hb5⟩
      rw [HDL] at r5 hc5 ⊢
      generalize duelsM i V = M at *
      have TM : Hid (∀ W, Below w5.heap.size w5 W → TabIn W a5 i M) := fun W hW => tabIn_smallT (rdr_ext r5 hW) (by omega) (fun l hl => by rw [HDR.out l hl]; omega)
      clear r5 TD RV4
      go_wp2_with fail
      refine (MB.out i a4 V.length c4 V w5 (TV.out w5 hb5) HVC.out).mono ?_
      rintro e w6 ⟨a6, c6, rfl, hc6, hm6, r6, hb6⟩
      rw [E1.out, HPL.out] at r6 hc6 ⊢
      generalize leastN i V = far at *
      clear E1 MB
      have hb56 := hb6
      go_wp2_with fail
      refine (WW.out a5 i c5 M w6 (TM.out w6 hb56) HM.out).mono ?_
      rintro e w7 ⟨a7, c7, rfl, hc7, hm7, r7, hb7⟩
      rw [E2.out] at r7 hc7 ⊢
      have hb57 := ext_trans hb56 hb7
      clear E2 WW hb56
      go_wp2_with fail
      refine (DT.out a5 i c5 M w7 (TM.out w7 hb57) HM.out).mono ?_
      rintro e w8 ⟨a8, c8, rfl, hc8, hm8, r8, hb8⟩
      rw [E3.out] at r8 hc8 ⊢
      have hb48 := ext_trans (ext_trans hb5 hb57) hb8
      clear E3 DT TM hb57
      go_wp2_with fail
      refine (RW.out 3 i a4 V.length c4 V w8 (TV.out w8 hb48) HR3.out).mono ?_
      rintro e w9 ⟨a9, c9, rfl, hc9, hm9, r9, hb9⟩
      rw [E4.out] at r9 hc9 ⊢
      have hb49 := ext_trans hb48 hb9
      clear E4 HR3
      go_wp2_with fail
      refine (RW.out 4 i a4 V.length c4 V w9 (TV.out w9 hb49) HR4.out).mono ?_
      rintro e w10 ⟨a10, c10, rfl, hc10, hm10, r10, hb10⟩
      rw [E5.out] at r10 hc10 ⊢
      have hb410 := ext_trans hb49 hb10
      have hb010 := ext_trans hb04 hb410
      -- all of it in the last world
      have q9 := rd_ext r9 hb10
      have q8 := rd_ext (rd_ext r8 hb9) hb10
      have q7 := rd_ext (rd_ext (rd_ext r7 hb8) hb9) hb10
      have q6 := rd_ext (rd_ext (rd_ext (rd_ext r6 hb7) hb8) hb9) hb10
      have qp := rd_ext (rd_ext RP2.out hb4) hb410
      have cp0 := qp.2 (by omega)
      obtain ⟨bq, oq, eq, _, hcq⟩ := cp0
      injection eq with eq; injection eq with eq1 eq2
      subst eq1; subst eq2
      have c0 := hcq 0 (by omega)
      rw [EX.out, Nat.add_zero] at c0
      clear E5 HR4 RW TV r6 r7 r8 r9 hb5 hb6 hb7 hb8 hb9 hb10 hb48 hb49 hb04 hb4 RP2 hcq HM HDR HVC HBC HB3 hbpw hb410
      have hbF : Below w10.heap.size w10 (w10.alloc (.cells #[.int .i64 x] 3)) := (Below.refl _ _).alloc (Nat.le_refl _) _
      have rF : Rd (w10.alloc (.cells #[.int .i64 x] 3)) (w10.alloc (.cells #[.int .i64 x] 3)).heap.size (some ⟨w10.heap.size, 0, none⟩) 1 [(x : Int)] := by simpa using Rd.lit w10 3 [(x : Int)] #[.int .i64 x] rfl
      have RF := Lib.hid rF
      have R6 := Lib.hid (rd_ext q6 hbF)
      have R7 := Lib.hid (rd_ext q7 hbF)
      have R8 := Lib.hid (rd_ext q8 hbF)
      have R9 := Lib.hid (rd_ext q9 hbF)
      have R10 := Lib.hid (rd_ext r10 hbF)
      have RQ := Lib.hid (rd_ext qp hbF)
      have hb011 := ext_trans hb010 hbF
      clear q6 q7 q8 q9 r10 qp hbF rF hb010
      have EQ : ∀ (l : List Int) (a a2 : Option Addr) (n c n2 c2 : Nat) (W : World), Rd W W.heap.size a n l → Rd W W.heap.size a2 n2 l → n ≤ 9223372036854775807 → n2 ≤ 9223372036854775807 → Calls Try.prog 20 #[.slice a n c, .slice a2 n2 c2] W fun e w' => e = .returned (.bool true) ∧ Below W.heap.size W w' := fun l a a2 n c n2 c2 W h1 h2 h3 h4 => by
        have := equal_ext l l a a2 n c n2 c2 W h1 h2 h3 h4
        rw [decide_eq_true rfl] at this
        exact this
      have HEQ := Lib.hid EQ
      clear EQ
      by_cases hi1 : i = 1
      · have d1 : ((i : Int) == 1) = true := by rw [beq_iff_eq]; omega
        have HI := Lib.hid hi1
        clear hi1
        go_wp2_with fail
        generalize w10.alloc (.cells #[.int .i64 x] 3) = w11 at *
        refine (W0.out w11).mono ?_
        rintro e w12 ⟨rfl, hb12⟩
        have hbG : Below w12.heap.size w12 (w12.alloc (.cells #[.int .i64 0, .int .i64 0, .int .i64 0, .int .i64 0, .int .i64 0, .int .i64 0, .int .i64 0] 23)) := (Below.refl _ _).alloc (Nat.le_refl _) _
        have hk0 := ext_trans hb12 hbG
        have QG := Lib.hid (tgood_zero w12.heap.size 0 7 7 _ (by omega) (zeros_at w12 23 7 #[.int .i64 0, .int .i64 0, .int .i64 0, .int .i64 0, .int .i64 0, .int .i64 0, .int .i64 0] rfl))
        clear hb12 hbG
        go_wp2_with fail
        refine QG.out.mono ?_
        rintro e w13 ⟨rfl, rfl⟩
        clear QG
        generalize w12.alloc (.cells #[.int .i64 0, .int .i64 0, .int .i64 0, .int .i64 0, .int .i64 0, .int .i64 0, .int .i64 0] 23) = w13 at *
        go_wp2_with fail
        refine (HEQ.out [(x : Int)] a7 (some ⟨w10.heap.size, 0, none⟩) 1 c7 1 1 _ (rd_ext R7.out hk0) (rd_ext RF.out hk0) (by omega) (by omega)).mono ?_
        rintro e v0 ⟨rfl, hq0⟩
        have hk1 := ext_trans hk0 hq0
        clear hq0 hk0
        go_wp2
        go_ret
        exact ⟨rfl, ext_trans hb011 hk1⟩
      · have d1 : ((i : Int) == 1) = false := by rw [beq_eq_false_iff_ne]; omega
        have HI := Lib.hid hi1
        clear hi1
        go_wp2_with fail
        generalize w10.alloc (.cells #[.int .i64 x] 3) = w11 at *
        refine (W0.out w11).mono ?_
        rintro e w12 ⟨rfl, hb12⟩
        have hbG : Below w12.heap.size w12 (w12.alloc (.cells #[.int .i64 0, .int .i64 0, .int .i64 0, .int .i64 0, .int .i64 0, .int .i64 0, .int .i64 0] 23)) := (Below.refl _ _).alloc (Nat.le_refl _) _
        have hk0 := ext_trans hb12 hbG
        have QG := Lib.hid (tgood_zero w12.heap.size 0 7 7 _ (by omega) (zeros_at w12 23 7 #[.int .i64 0, .int .i64 0, .int .i64 0, .int .i64 0, .int .i64 0, .int .i64 0, .int .i64 0] rfl))
        clear hb12 hbG
        go_wp2_with fail
        refine QG.out.mono ?_
        rintro e w13 ⟨rfl, rfl⟩
        clear QG
        generalize w12.alloc (.cells #[.int .i64 0, .int .i64 0, .int .i64 0, .int .i64 0, .int .i64 0, .int .i64 0, .int .i64 0] 23) = w13 at *
        go_wp2_with fail
        refine (HEQ.out p a6 (some ⟨bp, op, none⟩) i c6 i cp _ (rd_ext R6.out hk0) (rd_ext RQ.out hk0) (by omega) (by omega)).mono ?_
        rintro e v0 ⟨rfl, hq0⟩
        have hk1 := ext_trans hk0 hq0
        clear hq0 hk0
        go_wp2_with fail
        refine (HEQ.out [(x : Int)] a7 (some ⟨w10.heap.size, 0, none⟩) 1 c7 1 1 _ (rd_ext R7.out hk1) (rd_ext RF.out hk1) (by omega) (by omega)).mono ?_
        rintro e v1 ⟨rfl, hq1⟩
        have hk2 := ext_trans hk1 hq1
        clear hq1 hk1
        go_wp2_with fail
        refine (HEQ.out [(x : Int)] a8 (some ⟨w10.heap.size, 0, none⟩) 1 c8 1 1 _ (rd_ext R8.out hk2) (rd_ext RF.out hk2) (by omega) (by omega)).mono ?_
        rintro e v2 ⟨rfl, hq2⟩
        have hk3 := ext_trans hk2 hq2
        clear hq2 hk2
        go_wp2_with fail
        refine (HEQ.out [(x : Int)] a9 (some ⟨w10.heap.size, 0, none⟩) 1 c9 1 1 _ (rd_ext R9.out hk3) (rd_ext RF.out hk3) (by omega) (by omega)).mono ?_
        rintro e v3 ⟨rfl, hq3⟩
        have hk4 := ext_trans hk3 hq3
        clear hq3 hk3
        go_wp2_with fail
        refine (HEQ.out [(x : Int)] a10 (some ⟨w10.heap.size, 0, none⟩) 1 c10 1 1 _ (rd_ext R10.out hk4) (rd_ext RF.out hk4) (by omega) (by omega)).mono ?_
        rintro e v4 ⟨rfl, hq4⟩
        have hk5 := ext_trans hk4 hq4
        clear hq4 hk4
        go_wp2
        go_ret
        exact ⟨rfl, ext_trans hb011 hk5⟩
end Go.Proofs.Ythcaipnlgbnfkaa

/-
  plumekeep.PeakBlack returns true, for every int, slice of ints and slice of slices of ints, if packages peak and tally keep their contracts; nothing that was there is written.
-/
import Derived.Test.YtcjhgkmodfkmoaaCPeaks
import Derived.Test.YtcjhgkmodfkmoaaAlVotes
import Derived.Test.YtcjhgkmodfkmoaaCTallies
import Derived.Test.YtcjhgkmodfkmoaaCAlongK
import Derived.Test.YtcjhgkmodfkmoaaCOrderOf
import Derived.Test.YtcjhgkmodfkmoaaCTableOf
import Derived.Test.YtcjhgkmodfkmoaaPushS
import Derived.Test.YtcjhgkmodfkmoaaPureA
import Derived.BigQuiet
import Derived.Deep.QuietTactic
namespace Go.Proofs.Ytcjhgkmodfkmoaa
open Go.RowKit Fm
set_option linter.unusedVariables false

set_option maxHeartbeats 4000000 in
set_option maxRecDepth 100000 in
theorem peakBlack_is (pA : PAlong) (pL : PAll) (pM : PMiddle) (C : TallyC) (n0 : Int) (hn0 : -9223372036854775808 ≤ n0) (hn1 : n0 ≤ 9223372036854775807) (v1 : Value) (X : List Int) {w : World} (f1 : IsInts w v1 X) (v2 : Value) (L : List (List Int)) (f2 : IsRows w v2 L) :
    Calls Try.prog 4 #[.int .i64 n0, v1, v2] w fun e w' => e = .returned (.bool true) ∧ Below w.heap.size w w' := by
  obtain ⟨ax, cx, rfl, rx, hox, _⟩ := f1
  obtain ⟨a, c, rfl, hr, hall, hlc, _, hcm, h24⟩ := f2
  have HRX := Lib.hid rx
  have HOX := Lib.hid hox
  have HR := Lib.hid hr
  have HO : Hid (∀ l ∈ L, (∀ x ∈ l, Ok64 x) ∧ l.length ≤ 17592186044416) := fun l hl => ⟨(hall l hl).1, by have := (hall l hl).2; omega⟩
  have W0 : Hid (∀ W, Calls Try.prog 14 #[] W fun e w' => e = .returned (.bool true) ∧ Below W.heap.size W w') := fun W => peaks_any pA W
  have W1 : Hid (∀ W, Calls Try.prog 15 #[] W fun e w' => e = .returned (.bool true) ∧ Below W.heap.size W w') := fun W => tallies_any C W
  have PL : Hid PAll := pL
  have PM : Hid PMiddle := pM
  have TC := Lib.hid C
  clear pA pL pM C rx hox hr hall
  unfold maxLen at hcm
  go_enter Try.func4, Try.ntmps4
  go_wp2_with fail
  refine (W0.out w).mono ?_
  rintro e w1 ⟨rfl, hb1⟩
  clear W0
  go_wp2_with fail
  refine (W1.out w1).mono ?_
  rintro e w2 ⟨rfl, hb2⟩
  have hb02 := ext_trans hb1 hb2
  clear W1 hb1 hb2
  go_wp2_with fail
  refine (within_any n0 6 w2 hn0 hn1 (by omega) (by omega)).mono ?_
  rintro e w2' ⟨rfl, rfl⟩
  obtain ⟨n, hn⟩ : ∃ n : Nat, 1 + n0 % 6 = n := ⟨(1 + n0 % 6).toNat, by omega⟩
  have h1 : 1 ≤ n := by omega
  have h6 : n ≤ 6 := by omega
  have e6 : n0 % 6 = (n : Int) - 1 := by omega
  rw [e6]
  have en : 1 + ((n : Int) - 1) = n := by omega
  clear hn e6 hn0 hn1
  go_wp2_with fail
  refine (orderOf_any n ax X.length cx X w2 w2.heap.size (Nat.le_refl _) (rd_ext HRX.out hb02) h1 h6 HOX.out).mono ?_
  rintro e w3 ⟨v3, rfl, o3, hb3⟩
  obtain ⟨al, cl, rfl, hcl, _⟩ := own_slice o3
  have hb03 := ext_trans hb02 hb3
  have HLP := Lib.hid (ordOf_perm n X)
  have RL := Lib.hid (Rd.of_own o3)
  generalize ordOf n X = line at *
  have HB03 := Lib.hid hb03
  have RR := Lib.hid (rdr_ext HR.out hb03)
  clear o3 hb02 hb3 hb03 HRX HOX HR
  obtain ⟨H, hH⟩ : ∃ H : Nat, H = min L.length 30 := ⟨_, rfl⟩
  have hH30 : H ≤ 30 := by omega
  have hHm : H ≤ L.length := by omega
  have hmin : min (L.length : Int) 30 = (H : Int) := by omega
  have b1 : (0 : Int) ≤ (H : Int) := by omega
  have b2 : (H : Int) ≤ (c : Int) := by omega
  have HVE : Hid ((L.take H).map (alongL line) = alVotes line L) := by
    show _ = _
    unfold alVotes
    rw [hH]
    rcases Nat.le_total L.length 30 with h | h
    · rw [Nat.min_eq_left h, List.take_of_length_le (Nat.le_refl _), List.take_of_length_le h]
    · rw [Nat.min_eq_right h]
  have HVL : Hid ((alVotes line L).length = H) := by show _ = _; rw [alVotes_len, hH]
  have HVM : Hid (∀ p ∈ alVotes line L, p.Perm (sides n) ∧ Along line p) := fun p hp => alVotes_mem HLP.out h1 hp
  clear hH
  generalize alVotes line L = V at *
  go_wp2_with fail
  clear hmin
  go_loopw [8, 38] (fun s8 s38 wr => ∃ (k : Nat) (vs : List Value), k ≤ H ∧ s38 = .int .i64 k ∧ wr.ownsRow w3.heap.size 22 1 s8 k vs ∧ Elems wr w3.heap.size 3 vs ((L.take k).map (alongL line)) ∧ Below w3.heap.size w3 wr) (fun _ s38 _ => H - (intOf s38).toNat)
  case atStart => exact ⟨0, [], Nat.zero_le _, rfl, World.ownsRow_nil _ _ _ _, Elems.nil_, Below.refl _ _⟩
  case round =>
    obtain ⟨k, vs, hk, rfl, hv, hel, hbel⟩ := hrel
    have hz := hbel.size
    by_cases hlt : k < H
    · obtain ⟨b, o, a', c', rfl, hb, hcell, _, _, _, hrd⟩ := RR.out.at_ (show k < L.length by omega)
      have hck : wr.cell? ⟨b, o + k, none⟩ = some (.slice a' (L.getD k []).length c') := (hbel.cell hb).trans hcell
      have hkl : k < L.length := by omega
      have hmem : L.getD k [] ∈ L := memR hkl
      have RD := Lib.hid (rd_ext hrd hbel)
      have QK := Lib.hid (alongK_any HLP.out h1 h6 al a' cl (L.getD k []).length c' wr.heap.size (L.getD k []) wr (Nat.le_refl _) (rd_ext RL.out hbel) (rd_ext hrd hbel) (HO.out _ hmem).2 (HO.out _ hmem).1)
      have HAP := Lib.hid (perm_len (alongL_spec HLP.out h1 (L.getD k [])).1)
      have hsn : (L.take (k + 1)).map (alongL line) = (L.take k).map (alongL line) ++ [alongL line (L.getD k [])] := by
        rw [List.take_succ_eq_append_getElem hkl, List.map_append, List.getD_eq_getElem?_getD, List.getElem?_eq_getElem hkl]; rfl
      have HSN := Lib.hid hsn
      clear hsn hcell hrd hmem
      generalize L.getD k [] = l at *
      generalize (L.take k).map (alongL line) = T at *
      generalize alongL line l = q at *
      go_wp2_with fail
      refine QK.out.mono ?_
      rintro e w4 ⟨v4, rfl, o4, hb4⟩
      obtain ⟨a4, c4, rfl, _, _⟩ := own_slice o4
      have z4 := hb4.size
      have hv4 := own_below hv hb4 (Nat.le_refl _)
      have hel4 := hel.below hb4 (Nat.le_refl _)
      have hbl4 := hbel.trans (hb4.mono hz)
      clear hv hel hbel hb4 hck QK
      go_wp2_with (at_builtin; refine pushS rfl _ _ rfl w4 w3.heap.size _ k vs a4 n c4 rfl rfl (by exact hv4) (by omega) (by omega) ?_)
      intro g cap w5 hv5 hg5 hg6 hg7
      have hkind : ∀ y, Value.ownBlock _ = some y → y < w3.heap.size ∨ ∃ c t, w4.heap[y]? = some (.cells c t (0, 0)) ∧ t ≠ 3 := fun y hy => by
        obtain ⟨c, hc⟩ := own_kind hv4 hy
        exact .inr ⟨c, _, hc, by decide⟩
      have hel5 := hel4.kept hg5 hkind
      have o5 := o4.kept hg5 (own_far hv4 o4 (by decide))
      have hbl5 := hbl4.grown hg5 (by omega) (fun y hy => (hv4.lt _ hy).1)
      have hel6 := hel5.snoc (l := q) (by rw [HAP.out]; exact own_mono o5 hz)
      clear hkind hel4 hv4 hbl4 o4 o5 hel5 hg5 hg6
      go_wp2
      go_roundw
      case rel => exact ⟨k + 1, _, by omega, by go_num, hv5, by rw [HSN.out]; exact hel6, hbl5⟩
      case measure => simp [intOf]; omega
    · obtain rfl : k = H := by omega
      rw [HVE.out] at hel
      obtain ⟨va, vc, rfl, hvc, hvm⟩ : ∃ va vc, u8 = .slice va k vc ∧ k ≤ vc ∧ vc ≤ maxLen := by
        obtain ⟨va, vc, e1, e2, e3, _⟩ := own_sliceV hv
        exact ⟨va, vc, e1, e2, e3⟩
      have RV := Lib.hid (RdR.of_own hv HVL.out hel)
      have RL2 := Lib.hid (rd_ext RL.out hbel)
      have HB2 := Lib.hid (ext_trans HB03.out hbel)
      clear hv hel hbel HVE RL HB03 RR HO hlc b1 b2 hHm hcm h24
      obtain ⟨pv, pl, pa, pm0, pm1⟩ := peak_right HLP.out h1 h6 HVM.out (by rw [HVL.out]; exact hH30)
      have TI : Hid (∀ W, Below wr.heap.size wr W → TabIn W va k V) := fun W hW => ⟨W.heap.size, Nat.le_refl _, rdr_ext RV.out hW, by omega, fun l hl => by rw [perm_len (HVM.out l hl).1]; omega⟩
      have LI : Hid (∀ W, Below wr.heap.size wr W → LstIn W al n cl line) := fun W hW => ⟨rd_ext RL2.out hW, by omega, hcl⟩
      have QL := Lib.hid (PL.out al n cl line va k vc V wr (LI.out wr (Below.refl _ _)) (TI.out wr (Below.refl _ _)))
      have QM : Hid (∀ W, Below wr.heap.size wr W → Calls Try.prog 9 #[.slice al n cl, .slice va k vc] W fun e w' => e = .returned (.tuple #[.int .i64 (midA line V), .int .i64 (mchk line V)]) ∧ Below W.heap.size W w') := fun W hW => PM.out al n cl line va k vc V W (LI.out W hW) (TI.out W hW)
      rw [pl, pa] at QL
      rw [HVL.out] at pm0 pm1
      clear PL PM
      by_cases hk0 : k = 0
      · rw [pm0 hk0] at QM
        have hz0 : ((k : Int) == 0) = true := by simpa using hk0
        clear pm0 pm1 pl pa pv hk0
        generalize midA line V = mi at *
        go_wp2_with fail
        refine QL.out.mono ?_
        rintro e w6 ⟨rfl, hb6⟩
        go_wp2_with fail
        refine (QM.out w6 hb6).mono ?_
        rintro e w7 ⟨rfl, hb7⟩
        have hb07 := ext_trans HB2.out (ext_trans hb6 hb7)
        clear QL QM hb6 hb7
        go_wp2
        go_ret
        exact ⟨rfl, hb07⟩
      · obtain ⟨e1, e2⟩ := pm1 hk0
        obtain ⟨kk, hkk, hmid, hno, hodd⟩ := peak_black HLP.out h1 (fun p hp => (HVM.out p hp).1) (fun p hp => (HVM.out p hp).2) (by rw [HVL.out]; omega)
        rw [e1, e2, hmid] at QM
        rw [HVL.out] at hodd
        have hz0 : ((k : Int) == 0) = false := beq_eq_false_iff_ne.2 (by omega)
        have QD : Hid (∀ W, Below wr.heap.size wr W → Calls Try.prog 19 #[.int .i64 n, .slice va k vc] W (MatOut (duelsM n V) W)) := fun W hW => TC.out.duels n va k vc V W W.heap.size (Nat.le_refl _) (rdr_ext RV.out hW) (by omega) pv
        have QB : Hid (∀ W, Below wr.heap.size wr W → Calls Try.prog 20 #[.int .i64 n, .slice va k vc] W fun e w' => ∃ bv ev : Int, e = .returned (.tuple #[.int .i64 bv, .int .i64 ev]) ∧ (k % 2 = 1 → bv = kk ∧ ev = 0) ∧ Below W.heap.size W w') := fun W hW => by
          by_cases hb : ∃ x, Beats n V x
          · obtain ⟨x, hx⟩ := hb
            exact (TC.out.beaterY n va k vc V W W.heap.size x (Nat.le_refl _) (rdr_ext RV.out hW) (by omega) pv hx).mono fun e w' ⟨q1, q2⟩ => ⟨_, _, q1, fun ho => ⟨by rw [beats_one hx (hodd ho)], rfl⟩, q2⟩
          · exact (TC.out.beaterN n va k vc V W W.heap.size (Nat.le_refl _) (rdr_ext RV.out hW) (by omega) pv (fun x hx => hb ⟨x, hx⟩)).mono fun e w' ⟨q1, q2⟩ => ⟨_, _, q1, fun ho => absurd ⟨kk, hodd ho⟩ hb, q2⟩
        have HNO : Hid (∀ y, y < n → ent (duelsM n V) y kk ≤ ent (duelsM n V) kk y) := fun y hy => by rw [ent_duels n V hy hkk, ent_duels n V hkk hy]; have := hno y hy; omega
        have gk1 : decide ((kk : Int) < 0) = false := decide_eq_false (by omega)
        have gk2 : decide (n ≤ kk) = false := decide_eq_false (by omega)
        have HML := Lib.hid (duelsM_len n V)
        have HMR : Hid (∀ l ∈ duelsM n V, l.length = n) := fun l hl => duelsM_rows hl
        clear pm0 pm1 pl pa pv hk0 e1 e2 hmid hno hodd TC TI LI RV RL2
        generalize duelsM n V = M at *
        go_wp2_with fail
        refine QL.out.mono ?_
        rintro e w6 ⟨rfl, hb6⟩
        clear QL
        go_wp2_with fail
        refine (QM.out w6 hb6).mono ?_
        rintro e w7 ⟨rfl, hb7⟩
        have hb17 := ext_trans hb6 hb7
        clear QM hb6 hb7
        go_wp2_with fail
        refine (QD.out w7 hb17).mono ?_
        rintro e w8 ⟨a8, c8, rfl, _, _, r8, hb8⟩
        rw [HML.out] at r8 ⊢
        have hb18 := ext_trans hb17 hb8
        clear QD hb17 hb8
        go_wp2_with fail
        refine (QB.out w8 hb18).mono ?_
        rintro e w9 ⟨bv, ev, rfl, hodd, hb9⟩
        have HODD := Lib.hid hodd
        have r9 := rdr_ext r8 hb9
        have hb09 := ext_trans HB2.out (ext_trans hb18 hb9)
        clear QB hb18 hb9 r8 hodd HB2
        go_wp2_with fail
        refine (good_zero w9.heap.size 0 2 2 _ (by omega) (zeros_at w9 24 2 #[.int .i64 0, .int .i64 0] rfl)).mono ?_
        rintro e w' ⟨rfl, rfl⟩
        have b10 : Below w9.heap.size w9 (w9.alloc (.cells #[.int .i64 0, .int .i64 0] 24)) := (Below.refl _ _).alloc (by omega) _
        have hb010 := ext_trans hb09 b10
        have r10 := rdr_ext r9 b10
        clear r9 b10 hb09
        generalize w9.alloc (.cells #[.int .i64 0, .int .i64 0] 24) = w10 at *
        have QT := Lib.hid (tableOf_true n a8 c8 M w10 w10.heap.size (Nat.le_refl _) (by omega) r10 HMR.out)
        go_wp2_with fail
        refine QT.out.mono ?_
        rintro e w11 ⟨rfl, hb11⟩
        have r11 := rdr_ext r10 hb11
        have hb011 := ext_trans hb010 hb11
        clear QT r10 hb010 hb11
        obtain ⟨bm, om, rfl, hbm, hsq⟩ := rdr_square r11 (by omega) HMR.out
        have HSQ := Lib.hid hsq
        have HB := Lib.hid hb011
        clear r11 hsq hb011
        go_wp2_with fail
        go_loopw [105] (fun yv wr => ∃ y : Nat, y ≤ n ∧ yv = .int .i64 y ∧ ∃ q, wr = w11.drewN q) (fun yv _ => n - (intOf yv).toNat)
        case atStart => exact ⟨0, Nat.zero_le _, rfl, 0, rfl⟩
        case round =>
          obtain ⟨y, hy, rfl, q, hwr⟩ := hrel
          have HWR := Lib.hid hwr
          by_cases hyn : y < n
          · have SQW : Hid (Sq wr w11.heap.size bm om n M) := by rw [hwr]; exact HSQ.out
            clear hwr
            obtain ⟨bx, ox, cx2, r1, _, _, _, hx3⟩ := SQW.out kk hkk
            obtain ⟨by_, oy, cy, r2, _, _, _, hy3⟩ := SQW.out y hyn
            have r3 := hx3 y hyn
            have r4 := hy3 kk hkk
            have hle := HNO.out y hyn
            have hlt : ¬ ent M kk y < ent M y kk := by omega
            clear hx3 hy3
            generalize ent M kk y = e1 at *
            generalize ent M y kk = e2 at *
            go_wp2_with fail
            go_quiet (fail)
            go_wp2
            go_roundw
            case rel => exact ⟨y + 1, by omega, by go_num, q + nq, by rw [HWR.out, World.drewN_drewN]⟩
            case measure => simp [intOf]; omega
          · obtain rfl : y = n := by omega
            clear hwr
            by_cases ho : k % 2 = 0
            · have ht : (((k : Nat) : Int).tmod 2 == 0) = true := by
                rw [beq_iff_eq, Int.tmod_eq_emod_of_nonneg (by omega)]; omega
              have ht2 : (((k : Nat) : Int) % 2 == 0) = true := by rw [beq_iff_eq]; omega
              go_wp2
              go_ret
              exact ⟨rfl, by rw [HWR.out]; exact below_drewN HB.out _⟩
            · obtain ⟨rfl, rfl⟩ := HODD.out (by omega)
              have ht : (((k : Nat) : Int).tmod 2 == 0) = false := by
                rw [beq_eq_false_iff_ne, Int.tmod_eq_emod_of_nonneg (by omega)]; omega
              have ht2 : (((k : Nat) : Int) % 2 == 0) = false := by rw [beq_eq_false_iff_ne]; omega
              have hkq : ((kk : Int) == (kk : Int)) = true := by simp
              go_wp2
              go_ret
              exact ⟨rfl, by rw [HWR.out]; exact below_drewN HB.out _⟩
end Go.Proofs.Ytcjhgkmodfkmoaa

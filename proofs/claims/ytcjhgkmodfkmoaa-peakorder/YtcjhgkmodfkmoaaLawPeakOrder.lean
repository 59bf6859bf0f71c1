/-
  plumekeep.PeakOrder returns true, for every int, slice of ints and slice of slices of ints, if packages peak and tally keep their contracts; nothing that was there is written.
-/
import Derived.Test.YtcjhgkmodfkmoaaCPeaks
import Derived.Test.YtcjhgkmodfkmoaaAlVotes
import Derived.Test.YtcjhgkmodfkmoaaCTallies
import Derived.Test.YtcjhgkmodfkmoaaCAlongK
import Derived.Test.YtcjhgkmodfkmoaaCOrderOf
import Derived.Test.YtcjhgkmodfkmoaaCTableOf
import Derived.Test.YtcjhgkmodfkmoaaStepS
import Derived.Test.YtcjhgkmodfkmoaaPureA
import Derived.Deep.DeepCutAuto
import Derived.IntWalk
import Derived.BigQuiet
import Derived.Deep.QuietTactic
namespace Go.Proofs.Ytcjhgkmodfkmoaa
open Go.RowKit Fm
set_option linter.unusedVariables false

/-- What stands behind the append. -/
def PoOut (w3 : World) (m : Nat) (T : List (List Int)) (s8 : Value) (wx : World) : Prop :=
  ∃ g cap vs, s8 = .slice (some ⟨g, 0, none⟩) m cap ∧ wx.ownsRow w3.heap.size 22 1 (.slice (some ⟨g, 0, none⟩) m cap) m vs ∧ Elems wx w3.heap.size 3 vs T ∧ Below w3.heap.size w3 wx ∧ m ≤ cap ∧ cap ≤ maxLen

set_option maxHeartbeats 4000000 in
set_option maxRecDepth 100000 in
theorem peakOrder_is (pA : PAlong) (pL : PAll) (C : TallyC) (n0 : Int) (hn0 : -9223372036854775808 ≤ n0) (hn1 : n0 ≤ 9223372036854775807) (v1 : Value) (X : List Int) {w : World} (f1 : IsInts w v1 X) (v2 : Value) (L : List (List Int)) (f2 : IsRows w v2 L) :
    Calls Try.prog 5 #[.int .i64 n0, v1, v2] w fun e w' => e = .returned (.bool true) ∧ Below w.heap.size w w' := by
  obtain ⟨ax, cx, rfl, rx, hox, _, _, _, hx8⟩ := f1
  obtain ⟨a, c, rfl, hr, hall, hlc, _, hcm, h24⟩ := f2
  have HRX := Lib.hid rx
  have HOX := Lib.hid hox
  have HR := Lib.hid hr
  have HO : Hid (∀ l ∈ L, (∀ x ∈ l, Ok64 x) ∧ l.length ≤ 17592186044416) := fun l hl => ⟨(hall l hl).1, by have := (hall l hl).2; omega⟩
  have W0 : Hid (∀ W, Calls Try.prog 14 #[] W fun e w' => e = .returned (.bool true) ∧ Below W.heap.size W w') := fun W => peaks_any pA W
  have W1 : Hid (∀ W, Calls Try.prog 15 #[] W fun e w' => e = .returned (.bool true) ∧ Below W.heap.size W w') := fun W => tallies_any C W
  have PL : Hid PAll := pL
  have TC := Lib.hid C
  clear pA pL C rx hox hr hall
  unfold maxLen at hcm
  go_enter Try.func5, Try.ntmps5
  go_wp2_with fail
  refine (W0.out w).mono ?_
  rintro e w1 ⟨rfl, hb1⟩
  clear W0
  go_wp2_with fail
  refine (W1.out w1).mono ?_
  rintro e w2 ⟨rfl, hb2⟩
  have hb02 := ext_trans hb1 hb2
  clear W1 hb1 hb2
  go_wp2_with fail
  refine (within_any n0 6 w2 hn0 hn1 (by omega) (by omega)).mono ?_
  rintro e w2' ⟨rfl, rfl⟩
  obtain ⟨n, hn⟩ : ∃ n : Nat, 1 + n0 % 6 = n := ⟨(1 + n0 % 6).toNat, by omega⟩
  have h1 : 1 ≤ n := by omega
  have h6 : n ≤ 6 := by omega
  have e6 : n0 % 6 = (n : Int) - 1 := by omega
  rw [e6]
  have en : 1 + ((n : Int) - 1) = n := by omega
  clear hn e6 hn0 hn1
  go_wp2_with fail
  refine (orderOf_any n ax X.length cx X w2 w2.heap.size (Nat.le_refl _) (rd_ext HRX.out hb02) h1 h6 HOX.out).mono ?_
  rintro e w3 ⟨v3, rfl, o3, hb3⟩
  obtain ⟨al, cl, rfl, hcl, _⟩ := own_slice o3
  have hb03 := ext_trans hb02 hb3
  have HLP := Lib.hid (ordOf_perm n X)
  have RL := Lib.hid (Rd.of_own o3)
  generalize ordOf n X = line at *
  have HB03 := Lib.hid hb03
  have RR := Lib.hid (rdr_ext HR.out hb03)
  have RX3 := Lib.hid (rd_ext HRX.out hb03)
  clear o3 hb02 hb3 hb03 HRX HR
  obtain ⟨H, hH⟩ : ∃ H : Nat, H = min L.length 30 := ⟨_, rfl⟩
  have hH30 : H ≤ 30 := by omega
  have hHm : H ≤ L.length := by omega
  have hmin : min (L.length : Int) 30 = (H : Int) := by omega
  have b1 : (0 : Int) ≤ (H : Int) := by omega
  have b2 : (H : Int) ≤ (c : Int) := by omega
  have HVE : Hid ((L.take H).map (alongL line) = alVotes line L) := by
    show _ = _
    unfold alVotes
    rw [hH]
    rcases Nat.le_total L.length 30 with h | h
    · rw [Nat.min_eq_left h, List.take_of_length_le (Nat.le_refl _), List.take_of_length_le h]
    · rw [Nat.min_eq_right h]
  have HVL : Hid ((alVotes line L).length = H) := by show _ = _; rw [alVotes_len, hH]
  have HVM : Hid (∀ p ∈ alVotes line L, p.Perm (sides n) ∧ Along line p) := fun p hp => alVotes_mem HLP.out h1 hp
  clear hH
  generalize alVotes line L = V at *
  go_wp2_with fail
  clear hmin
  go_loopw [8, 36] (fun s8 s36 wr => ∃ (k : Nat) (vs : List Value), k ≤ H ∧ s36 = .int .i64 k ∧ wr.ownsRow w3.heap.size 22 1 s8 k vs ∧ Elems wr w3.heap.size 3 vs ((L.take k).map (alongL line)) ∧ Below w3.heap.size w3 wr) (fun _ s36 _ => H - (intOf s36).toNat)
  case atStart => exact ⟨0, [], Nat.zero_le _, rfl, World.ownsRow_nil _ _ _ _, Elems.nil_, Below.refl _ _⟩
  case round =>
    obtain ⟨k, vs, hk, rfl, hv, hel, hbel⟩ := hrel
    have hz := hbel.size
    by_cases hlt : k < H
    · obtain ⟨b, o, a', c', rfl, hb, hcell, _, _, _, hrd⟩ := RR.out.at_ (show k < L.length by omega)
      have hck : wr.cell? ⟨b, o + k, none⟩ = some (.slice a' (L.getD k []).length c') := (hbel.cell hb).trans hcell
      have hkl : k < L.length := by omega
      have hmem : L.getD k [] ∈ L := memR hkl
      have RD := Lib.hid (rd_ext hrd hbel)
      have QK := Lib.hid (alongK_any HLP.out h1 h6 al a' cl (L.getD k []).length c' wr.heap.size (L.getD k []) wr (Nat.le_refl _) (rd_ext RL.out hbel) (rd_ext hrd hbel) (HO.out _ hmem).2 (HO.out _ hmem).1)
      have HAP := Lib.hid (perm_len (alongL_spec HLP.out h1 (L.getD k [])).1)
      have hsn : (L.take (k + 1)).map (alongL line) = (L.take k).map (alongL line) ++ [alongL line (L.getD k [])] := by
        rw [List.take_succ_eq_append_getElem hkl, List.map_append, List.getD_eq_getElem?_getD, List.getElem?_eq_getElem hkl]; rfl
      have HSN := Lib.hid hsn
      clear hsn hcell hrd hmem
      generalize L.getD k [] = l at *
      generalize (L.take k).map (alongL line) = T at *
      generalize alongL line l = q at *
      go_wp2_with fail
      refine QK.out.mono ?_
      rintro e w4 ⟨v4, rfl, o4, hb4⟩
      obtain ⟨a4, c4, rfl, _, _⟩ := own_slice o4
      have z4 := hb4.size
      have hv4 := own_below hv hb4 (Nat.le_refl _)
      have hel4 := hel.below hb4 (Nat.le_refl _)
      have hbl4 := hbel.trans (hb4.mono hz)
      clear hv hel hbel hb4 hck QK
      go_wp2_with (at_builtin; refine pushS rfl _ _ rfl w4 w3.heap.size _ k vs a4 n c4 rfl rfl (by exact hv4) (by omega) (by omega) ?_)
      intro g cap w5 hv5 hg5 hg6 hg7
      have hkind : ∀ y, Value.ownBlock _ = some y → y < w3.heap.size ∨ ∃ c t, w4.heap[y]? = some (.cells c t (0, 0)) ∧ t ≠ 3 := fun y hy => by
        obtain ⟨c, hc⟩ := own_kind hv4 hy
        exact .inr ⟨c, _, hc, by decide⟩
      have hel5 := hel4.kept hg5 hkind
      have o5 := o4.kept hg5 (own_far hv4 o4 (by decide))
      have hbl5 := hbl4.grown hg5 (by omega) (fun y hy => (hv4.lt _ hy).1)
      have hel6 := hel5.snoc (l := q) (by rw [HAP.out]; exact own_mono o5 hz)
      clear hkind hel4 hv4 hbl4 o4 o5 hel5 hg5 hg6
      go_wp2
      go_roundw
      case rel => exact ⟨k + 1, _, by omega, by go_num, hv5, by rw [HSN.out]; exact hel6, hbl5⟩
      case measure => simp [intOf]; omega
    · obtain rfl : k = H := by omega
      rw [HVE.out] at hel
      obtain ⟨va, vc, rfl, hvc, hvm⟩ : ∃ va vc, u8 = .slice va k vc ∧ k ≤ vc ∧ vc ≤ maxLen := by
        obtain ⟨va, vc, e1, e2, e3, _⟩ := own_sliceV hv
        exact ⟨va, vc, e1, e2, e3⟩
      have RV := Lib.hid (RdR.of_own hv HVL.out hel)
      have RL2 := Lib.hid (rd_ext RL.out hbel)
      have RX2 := Lib.hid (rd_ext RX3.out hbel)
      have HB2 := Lib.hid (ext_trans HB03.out hbel)
      clear HVE RR HO hlc b1 b2 hHm hcm h24 RX3
      unfold maxLen at hvm
      by_cases hpar : k % 2 = 1
      case' pos =>
        have ht : (((k : Nat) : Int) % 2 == 0) = false := by rw [beq_eq_false_iff_ne]; omega
        have TIU : Hid (∀ W', Below wr.heap.size wr W' → TabIn W' va k V) := fun W' hW => ⟨W'.heap.size, Nat.le_refl _, rdr_ext RV.out hW, by omega, fun l hl => by rw [perm_len (HVM.out l hl).1]; omega⟩
        have HUM := Lib.hid HVM.out
        have HUO : Hid (V.length % 2 = 1 ∧ V.length ≤ 30) := by show _ ∧ _; rw [HVL.out]; exact ⟨hpar, hH30⟩
        have HBU := Lib.hid HB2.out
        have RLU := Lib.hid RL2.out
        obtain ⟨U, rfl⟩ : ∃ U, U = V := ⟨_, rfl⟩
        obtain ⟨W, rfl⟩ : ∃ W, W = wr := ⟨_, rfl⟩
        clear hpar hH30 hv hel hbel RV HVM HVL HB2 RL2 RX2 HOX hx8
        go_wp2_with fail
      case' neg =>
        have ht : (((k : Nat) : Int) % 2 == 0) = true := by rw [beq_iff_eq]; omega
        obtain ⟨K, hK⟩ : ∃ K : Nat, K = k - 1 := ⟨_, rfl⟩
        have hmx : max (0 : Int) ((k : Int) - 1) = (K : Int) := by omega
        have hKc : (K : Int) ≤ (vc : Int) := by omega
        have hcut := own_cutS hv (i := K) (by omega)
        have hecut := elems_cut hel (i := K) (by rw [HVL.out]; omega)
        have QX := Lib.hid (fun (W : World) (hW : Below wr.heap.size wr W) => alongK_any HLP.out h1 h6 al ax cl X.length cx W.heap.size X W (Nat.le_refl _) (rd_ext RL2.out hW) (rd_ext RX2.out hW) (by omega) HOX.out)
        have HAX := Lib.hid (alongL_spec HLP.out h1 X)
        generalize alongL line X = q at *
        clear hv hel
        have hzk := hbel.size
        have HK := Lib.hid hK
        have hK30 : K ≤ 30 := by omega
        have hwrp : IntKind.i64.wrap ((k : Int) - 1) = (k : Int) - 1 := IntWalk.i64_in _ (by omega)
        have hK0 : (0 : Int) ≤ (K : Int) := by omega
        have hmx2 : (if (0 : Int) < (k : Int) - 1 then (k : Int) - 1 else 0) = (K : Int) := by split <;> omega
        clear hK
        go_upto_region 12 with fail
        obtain ⟨m, hm⟩ : ∃ m, m = K + 1 := ⟨_, rfl⟩
        have HMK := Lib.hid hm
        clear hm
        go_cut [8] (fun s8 wx => PoOut w3 m (V.take K ++ [q]) s8 wx)
        case' first =>
          go_region_law (first
            | (refine stepPushS rfl _ _ rfl _ w3.heap.size _ K (vs.take K) _ n _ rfl rfl (by assumption) (by assumption) (by omega) ?_; intro g5 cap5 w5 o5 gr5 hg6 hg7)
            | (go_simp; go_at_call 18; refine (QX.out wr.drew ⟨rfl, rfl, rfl, Nat.le_refl _, fun _ _ => rfl⟩).mono ?_; rintro e w4 ⟨v4, rfl, o4, hb4⟩; obtain ⟨a4, c4, rfl, _, _⟩ := own_slice o4; have hb4' : Below wr.heap.size wr w4 := ⟨hb4.os, hb4.tape, hb4.output, hb4.size, hb4.block⟩; have hv4 := own_below hcut hb4' (Nat.le_refl _); have hz4 : w3.heap.size ≤ w4.heap.size := Nat.le_trans hzk hb4'.size; clear hb4))
          all_goals
            have hkind : ∀ y, Value.ownBlock _ = some y → y < w3.heap.size ∨ ∃ c t, w4.heap[y]? = some (.cells c t (0, 0)) ∧ t ≠ 3 := fun y hy => by
              obtain ⟨c, hc⟩ := own_kind hv4 hy
              exact .inr ⟨c, _, hc, by decide⟩
            have hel5 := (hecut.below hb4' (Nat.le_refl _)).kept gr5 hkind
            have o6 := o4.kept gr5 (own_far hv4 o4 (by decide))
            have hbl5 := (hbel.trans (hb4'.mono hzk)).grown gr5 (by omega) (fun y hy => (hv4.lt _ hy).1)
            have hel6 := hel5.snoc (l := q) (by rw [perm_len HAX.out.1]; exact own_mono o6 hzk)
            clear hkind
            go_wp2_with fail
            go_meet
            exact ⟨g5, cap5, _, by rw [HMK.out], by rw [HMK.out]; exact o5, hel6, hbl5, by rw [HMK.out]; exact own_room o5⟩
        case' rest =>
          obtain ⟨g5, cap5, vs5, rfl, o5, el5, hb5, hc5, hc6⟩ := hcut
          have hz5 := hb5.size
          unfold maxLen at hc6
          have hul : (V.take K ++ [q]).length = m := by rw [List.length_append, List.length_take, HVL.out, List.length_singleton, HMK.out]; have := HK.out; omega
          have R5 := Lib.hid (RdR.of_own o5 hul el5)
          have HM5 : Hid (∀ p ∈ V.take K ++ [q], p.Perm (sides n) ∧ Along line p) := fun p hp => by
            rw [List.mem_append] at hp
            rcases hp with hp | hp
            · exact HVM.out p (List.mem_of_mem_take hp)
            · rw [List.mem_singleton] at hp; subst hp; exact HAX.out
          have HUL := Lib.hid hul
          have hpar2 : k % 2 = 0 := by omega
          have hm30 : m ≤ 31 := by have := HMK.out; omega
          have hb05 := ext_trans HB03.out hb5
          have rl5 := rd_ext RL.out hb5
          have HB5 := Lib.hid hb05
          have RL5 := Lib.hid rl5
          clear o5 el5 hb5 hul hbel hcut hecut QX HAX hb05 rl5 HVM HB2 RL2 RX2 HOX hx8 RV
          generalize V.take K ++ [q] = U1 at *
          by_cases hk0 : k = 0
          case' pos =>
            have ht2 : (((m : Nat) : Int) % 2 == 0) = false := by rw [beq_eq_false_iff_ne]; have := HMK.out; have := HK.out; omega
            have TIU : Hid (∀ W', Below wc.heap.size wc W' → TabIn W' (some ⟨g5, 0, none⟩) m U1) := fun W' hW => ⟨W'.heap.size, Nat.le_refl _, rdr_ext R5.out hW, by omega, fun l hl => by rw [perm_len (HM5.out l hl).1]; omega⟩
            have HUM := Lib.hid HM5.out
            have HUO : Hid (U1.length % 2 = 1 ∧ U1.length ≤ 30) := by show _ ∧ _; rw [HUL.out, HMK.out]; have := HK.out; omega
            have HBU := Lib.hid HB5.out
            have RLU := Lib.hid RL5.out
            obtain ⟨U, rfl⟩ : ∃ U, U = U1 := ⟨_, rfl⟩
            obtain ⟨W, rfl⟩ : ∃ W, W = wc := ⟨_, rfl⟩
            clear hk0 hpar2 hpar ht R5 HM5 HUL HB5 RL5 HK HVL HMK
            go_wp2_with fail
          case' neg =>
            have ht2 : (((m : Nat) : Int) % 2 == 0) = true := by rw [beq_iff_eq]; have := HMK.out; have := HK.out; omega
            have hm1 : 2 ≤ m := by have := HMK.out; have := HK.out; omega
            have hm1' : (1 : Int) ≤ (m : Int) := by omega
            have hne1 : ¬ cap5 = 1 := by omega
            have R6 := Lib.hid (rdr_drop R5.out (k := 1) (by omega))
            rw [Nat.zero_add] at R6
            have TIU : Hid (∀ W', Below wc.heap.size wc W' → TabIn W' (some ⟨g5, 1, none⟩) (m - 1) (U1.drop 1)) := fun W' hW => ⟨W'.heap.size, Nat.le_refl _, rdr_ext R6.out hW, by omega, fun l hl => by rw [perm_len (HM5.out l (List.mem_of_mem_drop hl)).1]; omega⟩
            have HUM : Hid (∀ p ∈ U1.drop 1, p.Perm (sides n) ∧ Along line p) := fun p hp => HM5.out p (List.mem_of_mem_drop hp)
            have HUO : Hid ((U1.drop 1).length % 2 = 1 ∧ (U1.drop 1).length ≤ 30) := by show _ ∧ _; rw [List.length_drop, HUL.out, HMK.out]; have := HK.out; omega
            have HBU := Lib.hid HB5.out
            have RLU := Lib.hid RL5.out
            obtain ⟨U, hU⟩ : ∃ U, U = U1.drop 1 := ⟨_, rfl⟩
            rw [← hU] at TIU HUM HUO
            obtain ⟨W, rfl⟩ : ∃ W, W = wc := ⟨_, rfl⟩
            clear hk0 hpar2 hpar ht R5 R6 HM5 HUL HB5 RL5 HK HVL HMK hU
            go_wp2_with fail
      all_goals
        obtain ⟨pv, pl, pa, _, _⟩ := peak_right HLP.out h1 h6 HUM.out HUO.out.2
        have QD : Hid (∀ (c' : Nat) W', Below W.heap.size W W' → Calls Try.prog 19 #[.int .i64 n, .slice _ _ c'] W' (MatOut (duelsM n U) W')) := fun c' W' hW => by
          obtain ⟨B, hB, hr, hm, _⟩ := TIU.out W' hW
          exact TC.out.duels n _ _ c' U W' B hB hr hm pv
        have QL := Lib.hid (fun c' => PL.out al n cl line _ _ c' U W ⟨RLU.out, by omega, hcl⟩ (TIU.out W (Below.refl _ _)))
        rw [pl, pa] at QL
        have HORD : Hid (∀ a b c, a < n → b < n → c < n → a ≠ c → ent (duelsM n U) b a < ent (duelsM n U) a b → ent (duelsM n U) c b < ent (duelsM n U) b c → ent (duelsM n U) c a < ent (duelsM n U) a c) := fun a b c ha hb hc hac q1 q2 => by
          rw [ent_duels n U hb ha, ent_duels n U ha hb] at q1
          rw [ent_duels n U hc hb, ent_duels n U hb hc] at q2
          rw [ent_duels n U hc ha, ent_duels n U ha hc]
          have := peak_order HLP.out (fun p hp => (HUM.out p hp).1) (fun p hp => (HUM.out p hp).2) HUO.out.1 ha hb hc hac (by omega) (by omega)
          omega
        have HML := Lib.hid (duelsM_len n U)
        have HMR : Hid (∀ l ∈ duelsM n U, l.length = n) := fun l hl => duelsM_rows hl
        clear pl pa pv TC PL TIU HUM HUO RLU
        generalize duelsM n U = M at *
        refine (QL.out _).mono ?_
        rintro e w6 ⟨rfl, hb6⟩
        clear QL
        go_wp2_with fail
        refine (QD.out _ w6 hb6).mono ?_
        rintro e w8 ⟨a8, c8, rfl, _, _, r8, hb8⟩
        rw [HML.out] at r8 ⊢
        have hb08 := ext_trans HBU.out (ext_trans hb6 hb8)
        clear QD hb6 hb8 HBU
        go_wp2_with fail
        refine (good_zero w8.heap.size 0 2 2 _ (by omega) (zeros_at w8 24 2 #[.int .i64 0, .int .i64 0] rfl)).mono ?_
        rintro e w' ⟨rfl, rfl⟩
        have b10 : Below w8.heap.size w8 (w8.alloc (.cells #[.int .i64 0, .int .i64 0] 24)) := (Below.refl _ _).alloc (by omega) _
        have hb010 := ext_trans hb08 b10
        have r10 := rdr_ext r8 b10
        clear r8 b10 hb08
        generalize w8.alloc (.cells #[.int .i64 0, .int .i64 0] 24) = w10 at *
        have QT := Lib.hid (tableOf_true n a8 c8 M w10 w10.heap.size (Nat.le_refl _) (by omega) r10 HMR.out)
        go_wp2_with fail
        refine QT.out.mono ?_
        rintro e w11 ⟨rfl, hb11⟩
        have r11 := rdr_ext r10 hb11
        have hb011 := ext_trans hb010 hb11
        clear QT r10 hb010 hb11
        obtain ⟨bm, om, rfl, hbm, hsq⟩ := rdr_square r11 (by omega) HMR.out
        have HSQ := Lib.hid hsq
        have HB := Lib.hid hb011
        clear r11 hsq hb011
        go_wp2_with fail
        go_loopw [96] (fun iv wr => ∃ i : Nat, i ≤ n ∧ iv = .int .i64 i ∧ ∃ q, wr = w11.drewN q) (fun iv _ => n - (intOf iv).toNat)
        case atStart => exact ⟨0, Nat.zero_le _, rfl, 0, rfl⟩
        case round =>
          obtain ⟨i, hi, rfl, qi, hwi⟩ := hrel
          have HWI := Lib.hid hwi
          clear hwi
          by_cases hin : i < n
          · obtain ⟨wo, rfl⟩ : ∃ wo, wo = wr := ⟨_, rfl⟩
            go_wp2_with fail
            go_loopw [100] (fun jv wr => ∃ j : Nat, j ≤ n ∧ jv = .int .i64 j ∧ ∃ q, wr = w11.drewN q) (fun jv _ => n - (intOf jv).toNat)
            case atStart => exact ⟨0, Nat.zero_le _, rfl, qi, HWI.out⟩
            case round =>
              obtain ⟨j, hj, rfl, qj, hwj⟩ := hrel
              have HWJ := Lib.hid hwj
              clear hwj HWI
              by_cases hjn : j < n
              · obtain ⟨wp, rfl⟩ : ∃ wp, wp = wr := ⟨_, rfl⟩
                go_wp2_with fail
                go_loopw [104] (fun kv wr => ∃ l : Nat, l ≤ n ∧ kv = .int .i64 l ∧ ∃ q, wr = w11.drewN q) (fun kv _ => n - (intOf kv).toNat)
                case atStart => exact ⟨0, Nat.zero_le _, rfl, qj, HWJ.out⟩
                case round =>
                  obtain ⟨l, hl, rfl, ql, hwl⟩ := hrel
                  have HWL := Lib.hid hwl
                  have SQW : Hid (Sq wr w11.heap.size bm om n M) := by rw [hwl]; exact HSQ.out
                  clear hwl HWJ
                  by_cases hln : l < n
                  · obtain ⟨b1, o1, c1, r1, _, _, _, f1⟩ := SQW.out i hin
                    obtain ⟨b2, o2, c2, r2, _, _, _, f2⟩ := SQW.out j hjn
                    obtain ⟨b3, o3, c3, r3, _, _, _, f3⟩ := SQW.out l hln
                    have m12 := f1 j hjn
                    have m21 := f2 i hin
                    have m23 := f2 l hln
                    have m32 := f3 j hjn
                    have m13 := f1 l hln
                    have m31 := f3 i hin
                    have HO := Lib.hid (HORD.out i j l hin hjn hln)
                    clear f1 f2 f3 SQW
                    generalize ent M i j = e12 at *
                    generalize ent M j i = e21 at *
                    generalize ent M j l = e23 at *
                    generalize ent M l j = e32 at *
                    generalize ent M i l = e13 at *
                    generalize ent M l i = e31 at *
                    by_cases hil : i = l
                    · have g0 : ((i : Int) != (l : Int)) = false := by simp [hil]
                      clear hil HO
                      go_wp2_with fail
                      go_quiet (fail)
                      go_wp2
                      go_roundw
                      case rel => exact ⟨l + 1, by omega, by go_num, ql + nq, by rw [HWL.out, World.drewN_drewN]⟩
                      case measure => simp [intOf]; omega
                    · have g0 : ((i : Int) != (l : Int)) = true := by simp; omega
                      by_cases q1 : e21 < e12
                      · by_cases q2 : e32 < e23
                        · have q3 : decide (e13 ≤ e31) = false := decide_eq_false (by have := HO.out hil q1 q2; omega)
                          clear hil HO
                          go_wp2_with fail
                          go_quiet (fail)
                          go_wp2
                          go_roundw
                          case rel => exact ⟨l + 1, by omega, by go_num, ql + nq, by rw [HWL.out, World.drewN_drewN]⟩
                          case measure => simp [intOf]; omega
                        · have g2 : decide (e32 < e23) = false := decide_eq_false q2
                          clear hil HO
                          go_wp2_with fail
                          go_quiet (fail)
                          go_wp2
                          go_roundw
                          case rel => exact ⟨l + 1, by omega, by go_num, ql + nq, by rw [HWL.out, World.drewN_drewN]⟩
                          case measure => simp [intOf]; omega
                      · have g1 : decide (e21 < e12) = false := decide_eq_false q1
                        clear hil HO
                        go_wp2_with fail
                        go_quiet (fail)
                        go_wp2
                        go_roundw
                        case rel => exact ⟨l + 1, by omega, by go_num, ql + nq, by rw [HWL.out, World.drewN_drewN]⟩
                        case measure => simp [intOf]; omega
                  · obtain rfl : l = n := by omega
                    go_wp2
                    go_roundw
                    case rel => exact ⟨j + 1, by omega, by go_num, ql, HWL.out⟩
                    case measure => simp [intOf]; omega
              · obtain rfl : j = n := by omega
                go_wp2
                go_roundw
                case rel => exact ⟨i + 1, by omega, by go_num, qj, HWJ.out⟩
                case measure => simp [intOf]; omega
          · obtain rfl : i = n := by omega
            go_wp2
            go_ret
            exact ⟨rfl, by rw [HWI.out]; exact below_drewN HB.out _⟩
end Go.Proofs.Ytcjhgkmodfkmoaa

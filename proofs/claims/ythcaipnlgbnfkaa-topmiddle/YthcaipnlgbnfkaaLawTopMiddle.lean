/-
  plumetop.TopMiddle returns true, for every int, slice of ints and slice of slices of ints, if peak.Along, peak.Middle, tally.Duels, middle.Best, widest.Winners, duel.Top, rules.Winners and worth.Share keep their contracts; nothing that was there is written.
-/
import Derived.Test.YthcaipnlgbnfkaaM3
import Derived.Test.YthcaipnlgbnfkaaM4
import Derived.Test.YthcaipnlgbnfkaaPureA
import Derived.Test.YthcaipnlgbnfkaaPureB
import Derived.Test.YthcaipnlgbnfkaaM6
import Derived.Test.YthcaipnlgbnfkaaCTopG
import Derived.BigQuiet
import Derived.Deep.QuietTactic
namespace Go.Proofs.Ythcaipnlgbnfkaa
open Go.RowKit Fm
set_option linter.unusedVariables false

theorem tabIn_smallM {w : World} {a : Option Addr} {n : Nat} {M : List (List Int)} (h : RdR w w.heap.size a n M) (hn : n ≤ 1000) (hl : ∀ l ∈ M, l.length ≤ 1000) : TabIn w a n M :=
  ⟨w.heap.size, Nat.le_refl _, h, by omega, fun l hl' => by have := hl l hl'; omega⟩

set_option maxHeartbeats 4000000 in
set_option maxRecDepth 100000 in
theorem topMiddle_is (pA : PAlong) (pM : PMiddle) (tD : TDuelsM) (mB : MBest) (wW : WWin) (dT : DTop) (rW : RWin) (sS : WShare) (n0 : Int) (hn0 : -9223372036854775808 ≤ n0) (hn1 : n0 ≤ 9223372036854775807) (vx : Value) (X : List Int) {w : World} (fx : IsInts w vx X) (v : Value) (L : List (List Int)) (f : IsRows w v L) :
    Calls Try.prog 12 #[.int .i64 n0, vx, v] w fun e w' => e = .returned (.bool true) ∧ Below w.heap.size w w' := by
  obtain ⟨ax, cx, rfl, hrx, hox, hlx, _, hcx, h8x⟩ := fx
  obtain ⟨a, c, rfl, hr, hall, hlc, _, hcm, h24⟩ := f
  have HRX := Lib.hid hrx
  have HOX := Lib.hid hox
  have HR := Lib.hid hr
  have HO : Hid (∀ l ∈ L, ∀ x ∈ l, Ok64 x) := fun l hl => (hall l hl).1
  have W0 : Hid (∀ W, Calls Try.prog 42 #[] W fun e w' => e = .returned (.bool true) ∧ Below W.heap.size W w') := fun W => works_any sS W
  have PA : Hid PAlong := pA
  have PM : Hid PMiddle := pM
  have TD : Hid TDuelsM := tD
  have MB : Hid MBest := mB
  have WW : Hid WWin := wW
  have DT : Hid DTop := dT
  have RW : Hid RWin := rW
  clear pA pM tD mB wW dT rW sS hrx hox hr hall h24
  go_enter Try.func12, Try.ntmps12
  go_wp2_with fail
  refine (within_any n0 6 w hn0 hn1 (by omega) (by omega)).mono ?_
  rintro e w1' ⟨rfl, rfl⟩
  obtain ⟨n, hn⟩ : ∃ n : Nat, 1 + n0 % 6 = n := ⟨(1 + n0 % 6).toNat, by omega⟩
  have h1 : 1 ≤ n := by omega
  have h6 : n ≤ 6 := by omega
  have e6 : n0 % 6 = (n : Int) - 1 := by omega
  rw [e6]
  have en : 1 + ((n : Int) - 1) = n := by omega
  clear hn e6 hn0 hn1
  go_wp2_with fail
  refine (orderOf_any n ax X.length cx X w w.heap.size (Nat.le_refl _) HRX.out h1 (by omega) HOX.out).mono ?_
  rintro e w2 ⟨v2, rfl, o2, hb2⟩
  have HLP := Lib.hid (ordOf_perm n X)
  generalize ordOf n X = line at *
  go_wp2_with fail
  refine (votesOf_any n a L.length c L w2 (rdr_ext HR.out hb2) hlc hcm h1 h6 HO.out).mono ?_
  rintro e w3 ⟨v3, vs3, rfl, o3, el3, hb3⟩
  have HV30 := votesOf_len n L
  have HP := Lib.hid (fun p (hp : p ∈ votesOf n L) => votesOf_mem hp)
  generalize votesOf n L = V at *
  have hV30 : V.length ≤ 30 := by omega
  obtain ⟨va3, vc3, rfl, _, _⟩ : ∃ va vc, v3 = .slice va V.length vc ∧ V.length ≤ vc ∧ vc ≤ maxLen := by
    obtain ⟨va, vc, e1, e2, e3, _⟩ := own_sliceV o3
    exact ⟨va, vc, e1, e2, e3⟩
  have o2' := own_below o2 hb3 (Nat.le_refl _)
  have hb03 := ext_trans hb2 hb3
  have hz2 := hb2.size
  have hz3 := hb03.size
  have HEL := Lib.hid (el3.mono hz2)
  have HRV := Lib.hid (RdR.of_own o3 rfl el3)
  have HCV : Hid (∀ j, j < V.length → ∃ b o u, va3 = some ⟨b, o, none⟩ ∧ b < w3.heap.size ∧ w3.cell? ⟨b, o + j, none⟩ = some u ∧ w3.ownsRow w.heap.size 3 1 u n (I (V.getD j []))) := fun j hj => by
    obtain ⟨u, hu, hou⟩ := HEL.out.at_ hj
    obtain ⟨g, cap, e1, _, hlt⟩ := o3.form (by omega)
    injection e1 with e1 e2 e3
    refine ⟨g, 0, u, e1, hlt, ?_, ?_⟩
    · subst e1; subst e3
      rw [Nat.zero_add, o3.cellAt j (by omega)]; exact hu
    · rw [perm_len (HP.out _ (memR hj))] at hou; exact hou
  obtain ⟨al, cl, rfl, hcl, hclm⟩ := own_slice o2'
  have OL := Lib.hid o2'
  have HB03 := Lib.hid hb03
  have HLL := perm_len HLP.out
  have HLN := Lib.hid HLL
  have HLCK : Hid (chk line.length line = 0) := by show _ = _; rw [HLL]; exact chk_perm HLP.out h1 h6
  have HS0 : Hid (alongs line (V.take 0) = []) := rfl
  clear HV30 HR HO hlc hcm HRX HOX hlx hcx h8x o2 o3 el3 hb2 hb3 o2' HRV HEL hb03
  unfold maxLen at hclm
  go_wp2_with fail
  go_loopw [8, 37] (fun s8 iv wr => ∃ (t : Nat) (vs : List Value), t ≤ V.length ∧ iv = .int .i64 t ∧ wr.ownsRow w3.heap.size 22 1 s8 (alongs line (V.take t)).length vs ∧ Elems wr w.heap.size 3 vs (alongs line (V.take t)) ∧ Below w3.heap.size w3 wr) (fun _ iv _ => V.length - (intOf iv).toNat)
  case atStart => exact ⟨0, [], Nat.zero_le _, rfl, World.ownsRow_nil _ _ _ _, Elems.nil_, Below.refl _ _⟩
  case round =>
    obtain ⟨t, vs, ht, rfl, hv, hel, hbel⟩ := hrel
    have hz := hbel.size
    by_cases htl : t < V.length
    · obtain ⟨b, o, u, rfl, hb, hcell, hou⟩ := HCV.out t htl
      have hck : wr.cell? ⟨b, o + t, none⟩ = some u := (hbel.cell (by exact hb)).trans hcell
      have hou2 := own_below hou hbel (Nat.le_refl _)
      have hqp := HP.out _ (memR htl)
      have HSN := Lib.hid (alongs_next line V htl)
      have hul := alongs_len line (V.take t)
      have hul2 : (alongs line (V.take t)).length ≤ 30 := by rw [List.length_take] at hul; omega
      obtain ⟨a', c', rfl, hc1, hc2⟩ := own_slice hou2
      unfold maxLen at hc2
      have hqc : achk line (V.getD t []) = 0 := by rw [achk_ok HLCK.out, HLL]; exact chk_perm hqp h1 h6
      have QA := Lib.hid (PA.out al n cl line a' n c' (V.getD t []) wr ⟨rd_ext (Rd.of_own OL.out) hbel, by omega, hcl⟩ ⟨Rd.of_own hou2, by omega, hc1⟩)
      rw [alongA_ok hqc, hqc] at QA
      have HQL := Lib.hid (perm_len hqp)
      clear hcell hou hqp hqc hul
      generalize V.getD t [] = q at *
      generalize alongs line (V.take t) = U at *
      go_wp2_with fail
      refine QA.out.mono ?_
      rintro e w4 ⟨rfl, hb4⟩
      have hv4 := own_below hv hb4 (Nat.le_refl _)
      have hel4 := hel.below hb4 (Nat.le_refl _)
      have hou4 := own_below hou2 hb4 (Nat.le_refl _)
      have hbl4 := hbel.trans (hb4.mono hz)
      have hz4 := hb4.size
      clear QA hv hel hou2 hbel hb4 hck
      cases hq : alongB line q with
      | true =>
        rw [hq] at HSN
        have HX : Hid (alongs line (V.take (t + 1)) = U ++ [q]) := HSN.out
        clear hq HSN
        go_wp2_with (at_builtin; refine pushS rfl _ _ rfl w4 w3.heap.size _ U.length vs a' n c' rfl rfl (by exact hv4) (by omega) (by omega) ?_)
        intro g cap w5 hv5 hg5 hg6 hg7
        have hkind : ∀ y, Value.ownBlock _ = some y → y < w.heap.size ∨ ∃ c t, w4.heap[y]? = some (.cells c t (0, 0)) ∧ t ≠ 3 := fun y hy => by
          obtain ⟨c, hc⟩ := own_kind hv4 hy
          exact .inr ⟨c, _, hc, by decide⟩
        have hel5 := hel4.kept hg5 hkind
        have o5 := hou4.kept hg5 (own_far hv4 hou4 (by decide))
        have hbl5 := hbl4.grown hg5 (by omega) (fun y hy => (hv4.lt _ hy).1)
        have hel6 := hel5.snoc (l := q) (by rw [HQL.out]; exact o5)
        have hv6 : w5.ownsRow w3.heap.size 22 1 (.slice (some ⟨g, 0, none⟩) (U.length + 1) cap) (alongs line (V.take (t + 1))).length (vs ++ [.slice a' n c']) := by rw [HX.out, List.length_append]; exact hv5
        rw [← HX.out] at hel6
        clear hkind hel4 hv4 hbl4 hou4 o5 hel5 hg5 hg6 hv5 HX
        go_wp2
        go_roundw
        case rel => exact ⟨t + 1, _, by omega, by go_num, hv6, hel6, hbl5⟩
        case measure => simp [intOf]; omega
      | false =>
        rw [hq] at HSN
        have HX : Hid (U = alongs line (V.take (t + 1))) := by show _ = _; rw [HSN.out]; simp
        rw [HX.out] at hv4 hel4
        clear hq HSN
        go_wp2
        go_roundw
        case rel => exact ⟨t + 1, vs, by omega, by go_num, hv4, hel4, hbl4⟩
        case measure => simp [intOf]; omega
    · obtain rfl : t = V.length := by omega
      rw [List.take_of_length_le (Nat.le_refl _)] at hv hel
      have hu30 : (alongs line V).length ≤ 30 := by have := alongs_len line V; omega
      have HUM : Hid (∀ q ∈ alongs line V, q.Perm (sides n) ∧ Along line q) := fun q hq => ⟨HP.out q (alongs_mem hq).1, (alongs_mem hq).2⟩
      have HSF := Lib.hid (along_self HLP.out)
      obtain ⟨m, hm⟩ : ∃ m, (alongs line V).length = m := ⟨_, rfl⟩
      have HUL := Lib.hid hm
      rw [hm] at hv hu30
      generalize alongs line V = U0 at *
      clear hm HS0 HP HCV
      obtain ⟨va, vc, rfl, hvc, hvm⟩ : ∃ va vc, u8 = .slice va m vc ∧ m ≤ vc ∧ vc ≤ maxLen := by
        obtain ⟨va, vc, e1, e2, e3, _⟩ := own_sliceV hv
        exact ⟨va, vc, e1, e2, e3⟩
      unfold maxLen at hvm
      have h3 : m % 2 = 1 ∨ (m % 2 = 0 ∧ m = 30) ∨ (m % 2 = 0 ∧ m ≠ 30) := by omega
      rcases h3 with hpar | hpar | hpar
      case' inl =>
        have ht : (((m : Nat) : Int) % 2 == 0) = false := by rw [beq_eq_false_iff_ne]; omega
        have m30 : ¬ 30 < m := by omega
        have RV : Hid (RdR wr wr.heap.size va m U0) := RdR.of_own (own_mono hv hz3) HUL.out hel
        have HUO : Hid (U0.length % 2 = 1 ∧ U0.length ≤ 30) := by show _ ∧ _; rw [HUL.out]; exact ⟨hpar, hu30⟩
        have RL := Lib.hid (rd_ext (Rd.of_own OL.out) hbel)
        have HBB := Lib.hid (ext_trans HB03.out hbel)
        have HUX := Lib.hid HUM.out
        obtain ⟨U, rfl⟩ : ∃ U, U = U0 := ⟨_, rfl⟩
        obtain ⟨W, rfl⟩ : ∃ W, W = wr := ⟨_, rfl⟩
        have HUZ := Lib.hid HUL.out
        clear hpar hv hel hbel OL HUM HUL
        go_wp2_with fail
      case' inr.inl =>
        obtain ⟨hpar, hm30⟩ := hpar
        have ht : (((m : Nat) : Int) % 2 == 0) = true := by rw [beq_iff_eq]; omega
        have HM30 := Lib.hid hm30
        clear hm30
        have ol4 := own_below OL.out hbel (Nat.le_refl _)
        have hbl4 := hbel
        go_wp2_with (at_builtin; refine pushS rfl _ _ rfl wr w3.heap.size _ m vs al n cl rfl rfl (by exact hv) (by omega) (by omega) ?_)
        intro g cap w5 hv5 hg5 hg6 hg7
        have hkind : ∀ y, Value.ownBlock _ = some y → y < w.heap.size ∨ ∃ c t, wr.heap[y]? = some (.cells c t (0, 0)) ∧ t ≠ 3 := fun y hy => by
          obtain ⟨c, hc⟩ := own_kind hv hy
          exact .inr ⟨c, _, hc, by decide⟩
        have hel5 := hel.kept hg5 hkind
        have ol5 := ol4.kept hg5 (own_far hv ol4 (by decide))
        have hbl5 := hbl4.grown hg5 (by omega) (fun y hy => (hv.lt _ hy).1)
        have hel6 := hel5.snoc (l := line) (by rw [HLN.out]; exact ol5)
        have hUM2 : Hid (∀ q ∈ U0 ++ [line], q.Perm (sides n) ∧ Along line q) := fun q hq => by
          rcases List.mem_append.1 hq with h | h
          · exact HUM.out q h
          · rw [List.mem_singleton] at h; subst h; exact ⟨HLP.out, HSF.out⟩
        have HUL2 : Hid ((U0 ++ [line]).length = m + 1) := by show _ = _; rw [List.length_append, HUL.out]; rfl
        obtain ⟨hcap1, hcap2⟩ := own_room hv5
        unfold maxLen at hcap2
        clear hkind hel hv hbel hbl4 ol4 hel5 hg5 hg6 HUM OL
        have hm30 := HM30.out
        have hcut := own_cutS hv5 (i := 29) (by omega)
        have hecut := elems_cut hel6 (i := 29) (by rw [HUL2.out]; omega)
        have m30 : (30 : Int) < (m : Int) + 1 := by omega
        have hcp : (29 : Int) ≤ (cap : Int) := by omega
        have HUX : Hid (∀ q ∈ (U0 ++ [line]).take 29, q.Perm (sides n) ∧ Along line q) := fun q hq => hUM2.out q (List.mem_of_mem_take hq)
        have HUZ : Hid (((U0 ++ [line]).take 29).length = 29) := by show _ = _; rw [List.length_take, HUL2.out]; omega
        have HUO : Hid (((U0 ++ [line]).take 29).length % 2 = 1 ∧ ((U0 ++ [line]).take 29).length ≤ 30) := by show _ ∧ _; rw [HUZ.out]; decide
        have RV : Hid (RdR w5 w5.heap.size (some ⟨g, 0, none⟩) 29 ((U0 ++ [line]).take 29)) := RdR.of_own (own_mono hcut hz3) HUZ.out hecut
        have RL := Lib.hid (Rd.of_own ol5)
        have HBB := Lib.hid (ext_trans HB03.out hbl5)
        obtain ⟨W, rfl⟩ : ∃ W, W = w5 := ⟨_, rfl⟩
        generalize (U0 ++ [line]).take 29 = U at *
        clear hcut hecut hel6 hv5 hbl5 ol5 hUM2 HUL2 HUL hpar
        clear hm30
        go_wp2_with fail
      case' inr.inr =>
        obtain ⟨hpar, hm30⟩ := hpar
        have ht : (((m : Nat) : Int) % 2 == 0) = true := by rw [beq_iff_eq]; omega
        have ol4 := own_below OL.out hbel (Nat.le_refl _)
        have hbl4 := hbel
        go_wp2_with (at_builtin; refine pushS rfl _ _ rfl wr w3.heap.size _ m vs al n cl rfl rfl (by exact hv) (by omega) (by omega) ?_)
        intro g cap w5 hv5 hg5 hg6 hg7
        have hkind : ∀ y, Value.ownBlock _ = some y → y < w.heap.size ∨ ∃ c t, wr.heap[y]? = some (.cells c t (0, 0)) ∧ t ≠ 3 := fun y hy => by
          obtain ⟨c, hc⟩ := own_kind hv hy
          exact .inr ⟨c, _, hc, by decide⟩
        have hel5 := hel.kept hg5 hkind
        have ol5 := ol4.kept hg5 (own_far hv ol4 (by decide))
        have hbl5 := hbl4.grown hg5 (by omega) (fun y hy => (hv.lt _ hy).1)
        have hel6 := hel5.snoc (l := line) (by rw [HLN.out]; exact ol5)
        have hUM2 : Hid (∀ q ∈ U0 ++ [line], q.Perm (sides n) ∧ Along line q) := fun q hq => by
          rcases List.mem_append.1 hq with h | h
          · exact HUM.out q h
          · rw [List.mem_singleton] at h; subst h; exact ⟨HLP.out, HSF.out⟩
        have HUL2 : Hid ((U0 ++ [line]).length = m + 1) := by show _ = _; rw [List.length_append, HUL.out]; rfl
        obtain ⟨hcap1, hcap2⟩ := own_room hv5
        unfold maxLen at hcap2
        clear hkind hel hv hbel hbl4 ol4 hel5 hg5 hg6 HUM OL
        have m30 : ¬ 30 < m + 1 := by omega
        have HUX := hUM2
        have HUZ := HUL2
        have HUO : Hid ((U0 ++ [line]).length % 2 = 1 ∧ (U0 ++ [line]).length ≤ 30) := by show _ ∧ _; rw [HUL2.out]; omega
        have RV : Hid (RdR w5 w5.heap.size (some ⟨g, 0, none⟩) (m + 1) (U0 ++ [line])) := RdR.of_own (own_mono hv5 hz3) HUL2.out hel6
        have RL := Lib.hid (Rd.of_own ol5)
        have HBB := Lib.hid (ext_trans HB03.out hbl5)
        obtain ⟨W, rfl⟩ : ∃ W, W = w5 := ⟨_, rfl⟩
        generalize U0 ++ [line] = U at *
        clear hel6 hv5 hbl5 ol5 hUM2 HUL2 HUL hpar
        go_wp2_with fail
      all_goals
        have hur := RV.out.1
        have huo := HUO.out
        have HVC : Hid (vchk n U = 0) := perm_vchkT h1 h6 huo.2 (fun q hq => (HUX.out q hq).1)
        have TV := Lib.hid (fun W' (hW : Below W.heap.size W W') => tabIn_smallM (rdr_ext RV.out hW) (by omega) (fun l hl => by rw [perm_len (HUX.out l hl).1]; omega))
        have HLC : Hid (mchk line U = 0) := by
          show _ = _
          refine mchk_ok (by rw [lchk_ok HLCK.out, HLL]; exact HVC.out) ?_ (by omega)
          rw [List.all_eq_true]
          exact fun q hq => along_iff.2 (HUX.out q hq).2
        obtain ⟨x, hxn, hmx, _, hbt'⟩ := peak_black HLP.out h1 (fun q hq => (HUX.out q hq).1) (fun q hq => (HUX.out q hq).2) (by omega)
        have hbt := hbt' huo.1
        have hma : midA line U = x := by rw [midA_ok HLC.out, hmx]
        have HM : Hid (tchk (duelsM n U) = 0) := tchk_duels h1 h6 huo.2
        have HDL := duelsM_len n U
        have HDR : Hid (∀ l ∈ duelsM n U, l.length = n) := fun l hl => duelsM_rows hl
        have E1 := Lib.hid (beats_best h1 h6 (fun q hq => (HUX.out q hq).1) hbt)
        have EB := Lib.hid (perm_len (best_all h1 h6 U).1)
        have E2 := Lib.hid (beats_winP h1 h6 huo.2 hbt)
        have E3 := Lib.hid (beats_topL hbt)
        have E4 := Lib.hid (beats_wins hbt)
        have HR3 : Hid (rchk 3 n U = 0) := by show _ = _; unfold rchk; rw [if_neg (by omega)]; exact HVC.out
        have hrp := rd_ext RL.out (Below.refl _ W)
        have hcl2 := hcl
        have QM := Lib.hid (fun cc : Nat => by have := PM.out al n cl line _ _ cc U W ⟨RL.out, by omega, hcl⟩ (TV.out W (Below.refl _ W)); rw [hma, HLC.out] at this; exact this)
        clear hbt hbt' hmx hma HLC hrp
        refine (QM.out _).mono ?_
        rintro e w4 ⟨rfl, hb4⟩
        clear QM PM PA
        go_wp2_with fail
        refine (TD.out n _ _ _ U w4 w4.heap.size (Nat.le_refl _) (rdr_ext RV.out hb4) (by omega) HVC.out).mono ?_
        rintro e w5 ⟨a5, c5, rfl, hc5, hm5, r5, hb5⟩
        have hb45 := ext_trans hb4 hb5
        rw [HDL] at r5 hc5 ⊢
        generalize duelsM n U = M at *
        have TM : Hid (∀ W', Below w5.heap.size w5 W' → TabIn W' a5 n M) := fun W' hW => tabIn_smallM (rdr_ext r5 hW) (by omega) (fun l hl => by rw [HDR.out l hl]; omega)
        clear r5 TD hb4 hb5
        go_wp2_with fail
        refine (WW.out a5 n c5 M w5 (TM.out w5 (Below.refl _ w5)) HM.out).mono ?_
        rintro e w7 ⟨a7, c7, rfl, hc7, hm7, r7, hb7⟩
        rw [E2.out] at r7 hc7 ⊢
        clear E2 WW
        go_wp2_with fail
        refine (DT.out a5 n c5 M w7 (TM.out w7 hb7) HM.out).mono ?_
        rintro e w8 ⟨a8, c8, rfl, hc8, hm8, r8, hb8⟩
        rw [E3.out] at r8 hc8 ⊢
        have hb48 := ext_trans (ext_trans hb45 hb7) hb8
        clear E3 DT TM
        go_wp2_with fail
        refine (RW.out 3 n _ _ _ U w8 (TV.out w8 hb48) HR3.out).mono ?_
        rintro e w9 ⟨a9, c9, rfl, hc9, hm9, r9, hb9⟩
        rw [E4.out] at r9 hc9 ⊢
        have hb49 := ext_trans hb48 hb9
        clear E4 HR3 RW
        go_wp2_with fail
        refine (MB.out n _ _ _ U w9 (TV.out w9 hb49) HVC.out).mono ?_
        rintro e w10 ⟨a6, c6, rfl, hc6, hm6, r6, hb10⟩
        rw [EB.out] at r6 hc6 ⊢
        generalize leastN n U = far at *
        have hb410 := ext_trans hb49 hb10
        have hb010 := ext_trans HBB.out hb410
        have q9 := rd_ext r9 hb10
        have q8 := rd_ext (rd_ext r8 hb9) hb10
        have q7 := rd_ext (rd_ext (rd_ext r7 hb8) hb9) hb10
        have HE1 : Hid ((bestL n U).getD 0 0 = x) := E1.out
        generalize bestL n U = best at *
        clear TV r7 r8 r9 hb7 hb8 hb9 hb10 hb45 hb48 hb49 hb410 E1 EB MB HM HDR HVC HBB RL HUX HUO HUZ RV hur huo
        go_wp2_with fail
        have hbF : Below w10.heap.size w10 (w10.alloc (.cells #[.int .i64 x] 3)) := (Below.refl _ _).alloc (Nat.le_refl _) _
        have rF : Rd (w10.alloc (.cells #[.int .i64 x] 3)) (w10.alloc (.cells #[.int .i64 x] 3)).heap.size (some ⟨w10.heap.size, 0, none⟩) 1 [(x : Int)] := by simpa using Rd.lit w10 3 [(x : Int)] #[.int .i64 x] rfl
        have RF := Lib.hid rF
        have R6 := Lib.hid (rd_ext r6 hbF)
        have R7 := Lib.hid (rd_ext q7 hbF)
        have R8 := Lib.hid (rd_ext q8 hbF)
        have R9 := Lib.hid (rd_ext q9 hbF)
        have hb011 := ext_trans hb010 hbF
        clear r6 q7 q8 q9 hbF rF hb010
        have HEQ : Hid (∀ (l : List Int) (a a2 : Option Addr) (n c n2 c2 : Nat) (W : World), Rd W W.heap.size a n l → Rd W W.heap.size a2 n2 l → n ≤ 9223372036854775807 → n2 ≤ 9223372036854775807 → Calls Try.prog 20 #[.slice a n c, .slice a2 n2 c2] W fun e w' => e = .returned (.bool true) ∧ Below W.heap.size W w') := fun l a a2 n c n2 c2 W h1 h2 h3 h4 => by
          have := equal_ext l l a a2 n c n2 c2 W h1 h2 h3 h4
          rw [decide_eq_true rfl] at this
          exact this
        generalize w10.alloc (.cells #[.int .i64 x] 3) = w11 at *
        refine (W0.out w11).mono ?_
        rintro e w12 ⟨rfl, hb12⟩
        have hbG : Below w12.heap.size w12 (w12.alloc (.cells #[.int .i64 0, .int .i64 0, .int .i64 0, .int .i64 0, .int .i64 0, .int .i64 0] 23)) := (Below.refl _ _).alloc (Nat.le_refl _) _
        have hk0 := ext_trans hb12 hbG
        have QG := Lib.hid (tgood_zero w12.heap.size 0 6 6 _ (by omega) (zeros_at w12 23 6 #[.int .i64 0, .int .i64 0, .int .i64 0, .int .i64 0, .int .i64 0, .int .i64 0] rfl))
        clear hb12 hbG
        go_wp2_with fail
        refine QG.out.mono ?_
        rintro e w13 ⟨rfl, rfl⟩
        clear QG
        generalize w12.alloc (.cells #[.int .i64 0, .int .i64 0, .int .i64 0, .int .i64 0, .int .i64 0, .int .i64 0] 23) = w13 at *
        go_wp2_with fail
        refine (HEQ.out [(x : Int)] a7 (some ⟨w10.heap.size, 0, none⟩) 1 c7 1 1 _ (rd_ext R7.out hk0) (rd_ext RF.out hk0) (by omega) (by omega)).mono ?_
        rintro e v0 ⟨rfl, hq0⟩
        have hk1 := ext_trans hk0 hq0
        clear hq0 hk0
        go_wp2_with fail
        refine (HEQ.out [(x : Int)] a8 (some ⟨w10.heap.size, 0, none⟩) 1 c8 1 1 _ (rd_ext R8.out hk1) (rd_ext RF.out hk1) (by omega) (by omega)).mono ?_
        rintro e v1 ⟨rfl, hq1⟩
        have hk2 := ext_trans hk1 hq1
        clear hq1 hk1
        go_wp2_with fail
        refine (HEQ.out [(x : Int)] a9 (some ⟨w10.heap.size, 0, none⟩) 1 c9 1 1 _ (rd_ext R9.out hk2) (rd_ext RF.out hk2) (by omega) (by omega)).mono ?_
        rintro e v2 ⟨rfl, hq2⟩
        have hk3 := ext_trans hk2 hq2
        clear hq2 hk2
        obtain ⟨b6, o6, rfl, _, q6⟩ := (rd_ext R6.out hk3).2 (by omega)
        have c60 := q6 0 (by omega)
        rw [HE1.out, Nat.add_zero] at c60
        have d0 : (0 : Int) < (n : Int) := by omega
        clear q6
        go_wp2
        go_ret
        exact ⟨by first | rfl | simp, ext_trans hb011 hk3⟩
end Go.Proofs.Ythcaipnlgbnfkaa

/-
  duel.Top: at right tables it returns the Smith set, otherwise the error of duel.Check; nothing that was there is written.
-/
import Derived.Test.YthcaipnlgbnfkaaCDWins
import Derived.Test.YthcaipnlgbnfkaaPureA
import Derived.Test.YthcaipnlgbnfkaaQue
import Derived.Test.YthcaipnlgbnfkaaCIndex
import Derived.Test.YthcaipnlgbnfkaaM15
import Derived.Deep.LoopGhost
namespace Go.Proofs.Ythcaipnlgbnfkaa
open Go.RowKit Fm
set_option linter.unusedVariables false

/-- What closure hands back. -/
def CloOut (n : Nat) (M : List (List Int)) (f : Nat) (w : World) (e : Ending) (w' : World) : Prop :=
  ∃ g P, e = .returned (.slice (some ⟨g, 0, none⟩) n n) ∧ w'.ownsRow w.heap.size 4 1 (.slice (some ⟨g, 0, none⟩) n n) n (Bs n P) ∧ Clo n M f P ∧ Below w.heap.size w w'
/-- What holds between two members. -/
def OutR (n : Nat) (M : List (List Int)) (f : Nat) (w : World) (g k : Nat) (v : Value) (wr : World) : Prop :=
  ∃ P q, QInv n M f P q ∧ 2 * (n - cntB n P) + q.length ≤ k ∧ k ≤ 2 * n + 1 ∧ Que wr (g + 1) v q ∧ wr.ownsRow w.heap.size 4 1 (.slice (some ⟨g, 0, none⟩) n n) n (Bs n P) ∧ Below w.heap.size w wr
/-- What holds while x is looked at. -/
def InR (n : Nat) (M : List (List Int)) (f : Nat) (w : World) (g k x : Nat) (v i : Value) (wr : World) : Prop :=
  ∃ P q j, j ≤ n ∧ i = .int .i64 (j : Int) ∧ IInv n M f x j P q ∧ 2 * (n - cntB n P) + q.length < k ∧ Que wr (g + 1) v q ∧ wr.ownsRow w.heap.size 4 1 (.slice (some ⟨g, 0, none⟩) n n) n (Bs n P) ∧ Below w.heap.size w wr

theorem bool_keep {w w' : World} {base g n cap : Nat} {xs : List Value} (h : w.ownsRow base 4 1 (.slice (some ⟨g, 0, none⟩) n cap) n xs) (hb : Below (g + 1) w w') : w'.ownsRow base 4 1 (.slice (some ⟨g, 0, none⟩) n cap) n xs := by
  refine ⟨h.1, ?_⟩
  rcases h.2 with hn | ⟨g', cap', cur, hv, h1, hg, r⟩
  · exact .inl hn
  · injection hv with hv _ hv3
    injection hv with hv
    injection hv with hv
    subst hv; subst hv3
    exact .inr ⟨g, cap, cur, rfl, h1, (hb.block g (by omega)).trans hg, r⟩

set_option maxHeartbeats 4000000 in
set_option maxRecDepth 100000 in
theorem closure_any (n : Nat) (h1 : 1 ≤ n) (h6 : n ≤ 6) (M : List (List Int)) (b o c : Nat) (w : World) (B : Nat) (hB : B ≤ w.heap.size) (hbB : b < B) (hsq : Sq w B b o n M) (f : Nat) (hf : f < n) :
    Calls Try.prog 79 #[.slice (some ⟨b, o, none⟩) n c, .int .i64 f] w (CloOut n M f w) := by
  have hmk : ∀ W : World, (Instr.makeSlice 83 (.int .i64 n) (.int .i64 n)).run Try.prog W = .ok (.slice (some ⟨W.heap.size, 0, none⟩) n n) (W.alloc (.cells (falses n) 4)) := make_bools n (by omega)
  have HSQ := Lib.hid hsq
  clear hsq
  -- the row of bools with f in it
  have own0 := own_falses w n (by omega)
  have cf := bool_cell own0 hf
  have ff := own0.frozenAt f
  obtain ⟨s1, g1⟩ := own0.stored f (.bool true)
  rw [Bs_set] at s1
  have hbz : Below w.heap.size w (w.alloc (.cells (falses n) 4)) := (Below.refl _ w).alloc (Nat.le_refl _) _
  have hb1 := hbz.grown g1 hbz.size (fun y hy => by injection hy with hy; omega)
  have hs1 : ((w.alloc (.cells (falses n) 4)).setCell ⟨w.heap.size, f, none⟩ (.bool true)).heap.size = w.heap.size + 1 := by simp
  have q0 : Que (((w.alloc (.cells (falses n) 4)).setCell ⟨w.heap.size, f, none⟩ (.bool true)).alloc (.cells #[.int .i64 (f : Int)] 3)) (w.heap.size + 1) (.slice (some ⟨w.heap.size + 1, 0, none⟩) 1 1) [f] := by
    have h := own_lit ((w.alloc (.cells (falses n) 4)).setCell ⟨w.heap.size, f, none⟩ (.bool true)) 3 [(f : Int)] #[.int .i64 (f : Int)] rfl (by unfold maxLen; simp)
    rw [hs1] at h
    exact Que.of_own (q := [f]) h (by simp)
  have s2 := s1.alloc (.cells #[.int .i64 (f : Int)] 3)
  have hb2 := hb1.alloc hb1.size (.cells #[.int .i64 (f : Int)] 3)
  have H0 : Hid (OutR n M f w w.heap.size (2 * n + 1) (.slice (some ⟨w.heap.size + 1, 0, none⟩) 1 1) (((w.alloc (.cells (falses n) 4)).setCell ⟨w.heap.size, f, none⟩ (.bool true)).alloc (.cells #[.int .i64 (f : Int)] 3))) :=
    ⟨upd (fun _ => false) f, [f], qInv_start hf, by simp; omega, Nat.le_refl _, q0, s2, hb2⟩
  rw [World.setCell_alloc_new] at H0
  clear own0 s1 g1 hbz hb1 q0 s2 hb2 hs1
  go_enter Try.func79, Try.ntmps79
  go_wp2_with fail
  clear hmk cf ff
  generalize (w.alloc (.cells ((falses n).setIfInBounds f (.bool true)) 4)).alloc (.cells #[.int .i64 (f : Int)] 3) = w2 at *
  obtain ⟨g, hg⟩ : ∃ g, w.heap.size = g := ⟨_, rfl⟩
  have hgl : w.heap.size ≤ g := by omega
  rw [show Value.slice (some ⟨w.heap.size, 0, none⟩) n n = Value.slice (some ⟨g, 0, none⟩) n n by rw [hg], show Value.slice (some ⟨w.heap.size + 1, 0, none⟩) 1 1 = Value.slice (some ⟨g + 1, 0, none⟩) 1 1 by rw [hg]]
  rw [hg] at H0
  clear hg
  go_loopg [6] (2 * n + 1) (fun k v wr => OutR n M f w g k v wr)
  case atStart => exact H0.out
  case round =>
    obtain ⟨P, q, hinv, hk, hkn, hq, own, hbel⟩ := hrel
    clear H0
    have HI := Lib.hid hinv
    clear hinv
    cases q with
    | nil =>
      obtain ⟨g2, o2, cap, rfl, hg2, _⟩ := hq
      simp only [List.length_nil]
      clear hk
      go_wp2
      go_ret
      exact ⟨g, P, rfl, own, HI.out.clo, hbel⟩
    | cons x q =>
      obtain ⟨g2, o2, cap, hv, hg2, hg3, _⟩ := id hq
      subst hv
      simp only [List.length_cons] at hq hk ⊢
      obtain ⟨c0, hcap, hcm, q1, q2⟩ := hq.pop
      unfold maxLen at hcm
      have HJ := Lib.hid HI.out.pop
      have hxn := HJ.out.xn
      have Q1 := Lib.hid q1
      have Q2 := Lib.hid q2
      have hlt : 2 * (n - cntB n P) + q.length < gk := by omega
      have HIN : Hid (InR n M f w g gk x (.slice (some ⟨g2, o2 + 1, none⟩) q.length (cap - 1)) (.int .i64 0) wr) := ⟨P, q, 0, Nat.zero_le _, rfl, HJ.out, hlt, q2, own, hbel⟩
      have HIN1 : Hid (cap = 1 → InR n M f w g gk x (.slice (some ⟨g2, o2, none⟩) q.length 0) (.int .i64 0) wr) := fun hc => ⟨P, q, 0, Nat.zero_le _, rfl, HJ.out, hlt, by rw [show q.length = 0 by omega]; exact q1 hc, own, hbel⟩
      have HIN0 : Hid (cap = 1 → InR n M f w g gk x (.slice (some ⟨g2, o2, none⟩) 0 0) (.int .i64 0) wr) := fun hc => ⟨P, q, 0, Nat.zero_le _, rfl, HJ.out, hlt, q1 hc, own, hbel⟩
      clear q1 q2 hq own hbel HI HJ Q1 Q2 hk hlt
      obtain ⟨wo, rfl⟩ : ∃ wo, wo = wr := ⟨_, rfl⟩
      by_cases hc1 : cap = 1
      all_goals
        (try subst hc1)
        go_wp2_with fail
        go_loopw [6, 27] (fun v i wr => InR n M f w g gk x v i wr) (fun _ i _ => n - (intOf i).toNat)
        case atStart => first | exact HIN.out | exact HIN1.out hc1 | exact HIN1.out rfl | exact HIN1.out trivial | exact HIN0.out rfl | exact HIN0.out trivial | exact HIN0.out hc1
        case round =>
          obtain ⟨P2, q3, j, hj, rfl, hinv, hlt, hq3, own3, hbel3⟩ := hrel
          have HI := Lib.hid hinv
          clear hinv HIN HIN1 HIN0
          by_cases hjn : j < n
          · have cj := bool_cell own3 hjn
            have fj := own3.frozenAt j
            have HD := Lib.hid (defeats_any n h6 M b o c wr B (HSQ.out.below hbel3 hB hbB) x j hxn hjn)
            cases hpj : P2 j with
            | true =>
              rw [hpj] at cj
              have HX := Lib.hid (HI.out.skip (.inl hpj))
              clear hpj HD HI
              go_wp2
              go_roundw
              case rel => exact ⟨P2, q3, j + 1, by omega, by go_num, HX.out, hlt, hq3, own3, hbel3⟩
              case measure => simp [intOf]; omega
            | false =>
              rw [hpj] at cj
              have HPJ := Lib.hid hpj
              clear hpj
              go_wp2_with fail
              refine HD.out.mono ?_
              rintro e w4 ⟨rfl, qd, rfl⟩
              clear HD cj fj
              have own4 := own_drewN own3 qd
              have hbel4 := below_drewN hbel3 qd
              have hq4 := hq3.drewN qd
              clear own3 hbel3 hq3
              generalize wr.drewN qd = w4 at *
              have hz4 := hbel4.size
              cases hbt : btB M x j with
              | true =>
                have HX := Lib.hid (HI.out.skip (.inr hbt))
                clear hbt HI HPJ
                go_wp2
                go_roundw
                case rel => exact ⟨P2, q3, j + 1, by omega, by go_num, HX.out, hlt, hq4, own4, hbel4⟩
                case measure => simp [intOf]; omega
              | false =>
                have HX := Lib.hid (HI.out.take hjn HPJ.out hbt)
                have hcn := cntB_upd hjn HPJ.out
                have hcl := cntB_le n (upd P2 j)
                have hlt2 : 2 * (n - cntB n (upd P2 j)) + (q3 ++ [j]).length < gk := by simp; omega
                have HLT := Lib.hid hlt2
                have hgw := (own4.lt g rfl).2
                have cj := bool_cell own4 hjn
                have fj := own4.frozenAt j
                obtain ⟨s1, g1⟩ := own4.stored j (.bool true)
                rw [Bs_set] at s1
                have hb5 := hbel4.grown g1 hz4 (fun y hy => by injection hy with hy; omega)
                have hq5 := hq4.grown g1 (by omega)
                have hql : q3.length ≤ 1000 := by omega
                have hgs : g + 1 ≤ (w4.setCell ⟨g, j, none⟩ (.bool true)).heap.size := by simp; omega
                clear hbt HI hcn hcl hlt2 own4 hbel4 hq4 g1 HPJ hlt
                go_wp2_with (at_builtin; go_must (refine pushQ rfl _ _ rfl (w4.setCell ⟨g, j, none⟩ (.bool true)) (g + 1) _ q3 j w4.heap.size rfl rfl (by simp) (by exact hq5) hgs hql ?_))
                intro v6 w6 hq6 hb6
                have s6 := bool_keep s1 hb6
                have hb7 := hb5.trans (hb6.mono (by omega))
                clear s1 hb5 hq5 hb6 cj fj hgs
                go_wp2
                go_roundw
                case rel => exact ⟨upd P2 j, q3 ++ [j], j + 1, by omega, by go_num, HX.out, HLT.out, hq6, s6, hb7⟩
                case measure => simp [intOf]; omega
          · obtain rfl : j = n := by omega
            have HX := Lib.hid HI.out.end_
            clear HI
            go_wp2
            go_roundg (2 * (j - cntB j P2) + q3.length)
            case measure => omega
            case rel => exact ⟨P2, q3, HX.out, Nat.le_refl _, by omega, hq3, own3, hbel3⟩
theorem dtopE_any (a : Option Addr) (m c : Nat) (M : List (List Int)) (w : World) (ti : TabIn w a m M) (ht : tchk M ≠ 0) :
    Calls Try.prog 40 #[.slice a m c] w (ErrOut (tchk M) w) := by
  have HC := Lib.hid (dwinsE_any a m c M w ti ht)
  have hne : (tchk M != 0) = true := by simpa using ht
  clear ht ti
  generalize tchk M = r at *
  go_enter Try.func40, Try.ntmps40
  go_wp2_with fail
  refine HC.out.mono ?_
  rintro e w1 ⟨a1, c1, rfl, hb⟩
  clear HC
  go_wp2
  go_ret2
  exact ⟨none, 0, rfl, hb⟩

theorem maxOf_hit (l : List Int) : ∀ m, 0 < m → m ≤ l.length → ∃ k, k < m ∧ l.getD k 0 = Lib.maxOf (l.take m) := by
  intro m
  induction m with
  | zero => intro h; omega
  | succ m ih =>
    intro _ hm
    by_cases h0 : m = 0
    · subst h0
      exact ⟨0, by omega, (Lib.maxOf_one l).symm⟩
    · obtain ⟨k, hk, hv⟩ := ih (by omega) (by omega)
      rw [Lib.maxOf_step l m (by omega) (by omega)]
      by_cases hc : Lib.maxOf (l.take m) ≤ l.getD m 0
      · exact ⟨m, by omega, by omega⟩
      · exact ⟨k, by omega, by omega⟩
theorem max_first (M : List (List Int)) {n : Nat} (h1 : 1 ≤ n) : ∃ f : Nat, f < n ∧ Lib.idxOf (winsL n M) (Lib.maxOf (winsL n M)) = f ∧ ∀ z, z < n → winTo M z n ≤ winTo M f n := by
  have hl : (winsL n M).length = n := by simp [winsL, sides_len]
  have hat : ∀ y, y < n → (winsL n M).getD y 0 = winTo M y n := fun y hy => by unfold winsL; rw [map_sides_getD n _ hy]; simp
  obtain ⟨k, hk, hkv⟩ := maxOf_hit (winsL n M) n (by omega) (by omega)
  have htk : (winsL n M).take n = winsL n M := List.take_of_length_le (by omega)
  rw [htk] at hkv
  obtain ⟨f, ⟨hf, hfv⟩, hleast⟩ := exists_least (p := fun k => k < n ∧ (winsL n M).getD k 0 = Lib.maxOf (winsL n M)) ⟨k, hk, hkv⟩
  refine ⟨f, hf, ?_, fun z hz => ?_⟩
  · have h := Lib.idxOf_hit (winsL n M) n f _ hf (by omega) hfv (fun j hj e => by have := hleast j ⟨by omega, e⟩; omega)
    rwa [htk] at h
  · have h := maxOf_ge (p := winsL n M) (k := z) (by omega) n hz (by omega)
    rw [htk, hat z hz] at h
    rw [← hat f hf, hfv]
    exact h

set_option maxHeartbeats 2000000 in
set_option maxRecDepth 100000 in
theorem dtop_any (a : Option Addr) (m c : Nat) (M : List (List Int)) (w : World) (ti : TabIn w a m M) (ht : tchk M = 0) :
    Calls Try.prog 40 #[.slice a m c] w (IntsOut (topL m M) w) := by
  have HW := Lib.hid (dwins_any a m c M w ti ht)
  obtain ⟨B, hB, hr, hm, h8⟩ := ti
  have HT := tab_of ht
  have hlen := hr.1
  rw [hlen] at HT
  obtain ⟨n, rfl⟩ : ∃ n, n = m := ⟨_, rfl⟩
  have h1 := HT.pos
  have h6 := HT.six
  obtain ⟨b, o, rfl, hbB, hsq⟩ := rdr_square hr (by omega) HT.rows
  have HSQ := Lib.hid hsq
  clear hsq hr h8 ht HT hlen hm
  obtain ⟨f, hf, hidx, hmax⟩ := max_first M h1
  have hrl : (winsL n M).length = n := by simp [winsL, sides_len]
  have HIDX := Lib.hid hidx
  have HMAX := Lib.hid hmax
  have HRL := Lib.hid hrl
  obtain ⟨res, hres⟩ : ∃ res, topL n M = res := ⟨_, rfl⟩
  have HRES := Lib.hid hres
  rw [hres]
  clear hidx hmax hrl hres
  go_enter Try.func40, Try.ntmps40
  go_wp2_with fail
  refine HW.out.mono ?_
  rintro e w1 ⟨a1, c1, rfl, _, _, r1, hb1⟩
  rw [HRL.out] at r1 ⊢
  have R1 := Lib.hid r1
  clear HW r1
  have hz1 := hb1.size
  go_wp2_with fail
  refine (max_any (winsL n M) a1 n c1 w1 w1.heap.size (by omega) R1.out (by omega)).mono ?_
  rintro e w' ⟨rfl, rfl⟩
  go_wp2_with fail
  have q := index_any (winsL n M) (Lib.maxOf (winsL n M)) a1 n c1 w1 w1.heap.size R1.out (by omega)
  rw [HIDX.out] at q
  refine q.mono ?_
  rintro e w' ⟨rfl, rfl⟩
  clear q R1 HIDX
  generalize Lib.maxOf (winsL n M) = mx at *
  have HCL := Lib.hid (closure_any n h1 h6 M b o c w1 B (by omega) hbB (HSQ.out.below hb1 hB hbB) f hf)
  go_wp2_with fail
  refine HCL.out.mono ?_
  rintro e w2 ⟨g, P, rfl, own, hclo, hb2⟩
  have HB2 := Lib.hid (ext_trans hb1 hb2)
  have HRL2 : Hid (listB P n = res) := by show _ = _; rw [← HRES.out]; exact clo_top hf hclo HMAX.out
  have OWN := Lib.hid own
  clear HCL hb1 hb2 hclo own HMAX HRES
  have hz2 := HB2.out.size
  go_wp2_with fail
  go_loopw [7, 26] (fun v i wr => ∃ j : Nat, j ≤ n ∧ i = .int .i64 j ∧ wr.ownsRow w2.heap.size 3 1 v (listB P j).length (I (listB P j)) ∧ Below w2.heap.size w2 wr) (fun _ i _ => n - (intOf i).toNat)
  case atStart => exact ⟨0, Nat.zero_le _, rfl, World.ownsRow_nil _ _ _ _, Below.refl _ w2⟩
  case round =>
    obtain ⟨j, hj, rfl, own3, hbel3⟩ := hrel
    have hz3 := hbel3.size
    by_cases hjn : j < n
    · have hgl := (OWN.out.lt g rfl).2
      have cj : wr.cell? ⟨g, j, none⟩ = some (.bool (P j)) := (hbel3.cell (by show g < _; omega)).trans (bool_cell OWN.out hjn)
      have hll := listB_len P j
      cases hp : P j with
      | true =>
        rw [hp] at cj
        have HY := Lib.hid (listB_yes hp)
        clear hp
        generalize listB P j = l at *
        go_wp2_with (at_builtin; go_must (refine push1 rfl _ _ rfl wr w2.heap.size _ l.length l (j : Int) rfl rfl (by exact own3) hz3 (by omega) ?_))
        intro g4 cap4 w4 own4 gr4 _ _
        have hb4 := hbel3.grown gr4 hz3 (own_not own3)
        clear gr4 own3 hbel3 cj
        go_wp2
        go_roundw
        case rel => exact ⟨j + 1, by omega, by go_num, by rw [HY.out]; simpa using own4, hb4⟩
        case measure => simp [intOf]; omega
      | false =>
        rw [hp] at cj
        rw [← listB_no hp] at own3
        clear hp
        go_wp2
        go_roundw
        case rel => exact ⟨j + 1, by omega, by go_num, own3, hbel3⟩
        case measure => simp [intOf]; omega
    · obtain rfl : j = n := by omega
      rw [HRL2.out] at own3
      obtain ⟨av, cv, hv, hc1, hc2⟩ := own_slice own3
      subst hv
      have R := Lib.hid (Rd.of_own own3)
      have hend := ext_trans HB2.out hbel3
      clear own3
      go_wp2
      go_ret2
      exact ⟨av, cv, rfl, hc1, hc2, R.out, hend⟩

theorem dTopE : DTopE := dtopE_any
theorem dTop : DTop := dtop_any
end Go.Proofs.Ythcaipnlgbnfkaa

/-
  widest.Winners: at a right table those from which no strongest path is weaker than the one back; the error of duel.Check else; nothing that was there is written.
-/
import Derived.Test.YthcaipnlgbnfkaaCWPaths
import Derived.Test.YthcaipnlgbnfkaaWinPMath
namespace Go.Proofs.Ythcaipnlgbnfkaa
open Go.RowKit Fm
set_option linter.unusedVariables false

set_option maxHeartbeats 1000000 in
set_option maxRecDepth 100000 in
theorem wwinE_nil (a : Option Addr) (m c : Nat) (M : List (List Int)) (w : World) (ti : TabIn w a m M) (ht : tchk M ≠ 0) :
    Calls Try.prog 39 #[.slice a m c] w (ErrNil (tchk M) w) := by
  have HC := Lib.hid (wpathsE_nil a m c M w ti ht)
  have hne : (tchk M != 0) = true := by simpa using ht
  clear ht ti
  generalize tchk M = r at *
  go_enter Try.func39, Try.ntmps39
  go_wp2_with fail
  refine HC.out.mono ?_
  rintro e w1 ⟨rfl, hb⟩
  clear HC
  go_wp2
  go_ret2
  exact ⟨rfl, hb⟩
theorem wWinE : WWinE := fun a m c M w ti ht => (wwinE_nil a m c M w ti ht).mono fun _ _ h => h.out

theorem drewH {w wr : World} {j : Nat} (h : wr = w.drewN j) (k : Nat) : ∃ m, wr.drewN k = w.drewN m := ⟨j + k, by rw [h, World.drewN_drewN]⟩

set_option maxHeartbeats 1000000 in
set_option maxRecDepth 100000 in
theorem holds_any {n : Nat} {M : List (List Int)} (h1 : 1 ≤ n) (h6 : n ≤ 6) (b o c : Nat) (w : World) (B : Nat) (hsq : Sq w B b o n (pathM n M)) (x : Nat) (hx : x < n) :
    Calls Try.prog 75 #[.slice (some ⟨b, o, none⟩) n c, .int .i64 x] w fun e w' => e = .returned (.bool (winB n M x)) ∧ ∃ q, w' = w.drewN q := by
  have HSQ := Lib.hid hsq
  have HPE : Hid (∀ x y, x < n → y < n → ent (pathM n M) x y = pathE n M x y) := fun x y hx hy => pathM_ent hx hy
  obtain ⟨res, hres⟩ : ∃ res, winB n M x = res := ⟨_, rfl⟩
  rw [← okTo_win] at hres
  have HRES := Lib.hid hres
  rw [← okTo_win, hres]
  clear hsq hres
  generalize pathM n M = P at *
  go_enter Try.func75, Try.ntmps75
  go_wp2_with fail
  go_loopw [8] (fun i wr => ∃ k : Nat, k ≤ n ∧ i = .int .i64 k ∧ okTo n M x k = true ∧ ∃ q, wr = w.drewN q) (fun i _ => n - (intOf i).toNat)
  case atStart => exact ⟨0, Nat.zero_le _, rfl, rfl, 0, rfl⟩
  case round =>
    obtain ⟨k, hk, rfl, hok, q, hwr⟩ := hrel
    have HOK := Lib.hid hok
    have HWR := Lib.hid hwr
    have SQW : Hid (Sq wr B b o n P) := by rw [hwr]; exact HSQ.out
    clear hwr hok
    by_cases hkn : k < n
    · obtain ⟨bx, ox, cx, r1, _, _, _, hx3⟩ := SQW.out x hx
      obtain ⟨by_, oy, cy, r2, _, _, _, hy3⟩ := SQW.out k hkn
      have r3 := hx3 k hkn
      have r4 := hy3 x hx
      rw [HPE.out x k hx hkn] at r3
      rw [HPE.out k x hkn hx] at r4
      have HN : Hid (okTo n M x (k + 1) = (okTo n M x k && decide (pathE n M k x ≤ pathE n M x k))) := rfl
      have HI : Hid (okTo n M x n = true → ∀ y, y < n → pathE n M y x ≤ pathE n M x y) := okTo_iff.1
      have HI2 := Lib.hid (fun h => HI.out h k hkn)
      clear hx3 hy3 HI
      generalize pathE n M k x = ekx at *
      generalize pathE n M x k = exk at *
      by_cases hlt : exk < ekx
      · have HX : Hid (res = false) := by
          show _ = _
          rw [← HRES.out]
          cases hh : okTo n M x n with
          | false => rfl
          | true => have := HI2.out hh; omega
        go_wp2_with fail
        go_quiet (fail)
        go_wp2
        go_ret
        exact ⟨by rw [HX.out]; rfl, drewH HWR.out _⟩
      · have HX : Hid (okTo n M x (k + 1) = true) := by
          show _ = _
          rw [HN.out, HOK.out, Bool.true_and]; exact decide_eq_true (by omega)
        clear HN
        go_wp2_with fail
        go_quiet (fail)
        go_wp2
        go_roundw
        case rel => exact ⟨k + 1, by omega, by go_num, HX.out, drewH HWR.out _⟩
        case measure => simp [intOf]; omega
    · obtain rfl : k = n := by omega
      have HX : Hid (res = true) := by show _ = _; rw [← HRES.out]; exact HOK.out
      go_wp2
      go_ret
      exact ⟨by rw [HX.out]; rfl, q, HWR.out⟩

set_option maxHeartbeats 2000000 in
set_option maxRecDepth 100000 in
theorem wwin_own (a : Option Addr) (m c : Nat) (M : List (List Int)) (w : World) (ti : TabIn w a m M) (ht : tchk M = 0) :
    Calls Try.prog 39 #[.slice a m c] w (OwnOut (winP m M) w) := by
  have HP := Lib.hid (wPaths a m c M w ti ht)
  have T := tab_of ht
  obtain ⟨B, hB, hr, hm, h8⟩ := ti
  rw [hr.1] at T
  obtain ⟨n, rfl⟩ : ∃ n, n = m := ⟨_, rfl⟩
  have h1 := T.pos
  have h6 := T.six
  have HPL := Lib.hid (pathM_len n M)
  have HPR : Hid (∀ l ∈ pathM n M, l.length = n) := fun l hl => pathM_rows hl
  have HEND := Lib.hid (winTo_end n M)
  clear hr h8 ht T hm
  go_enter Try.func39, Try.ntmps39
  go_wp2_with fail
  refine HP.out.mono ?_
  rintro e w1 ⟨a1, c1, rfl, _, _, r1, hb1⟩
  rw [HPL.out] at r1 ⊢
  obtain ⟨b, o, rfl, hbB, hsq⟩ := rdr_square r1 (by omega) HPR.out
  have HSQ := Lib.hid hsq
  have HB1 := Lib.hid hb1
  have hz1 := hb1.size
  clear HP r1 hsq hb1
  go_wp2_with fail
  go_loopw [6, 18] (fun v i wr => ∃ j : Nat, j ≤ n ∧ i = .int .i64 j ∧ wr.ownsRow w1.heap.size 3 1 v (winTo_ n M j).length (I (winTo_ n M j)) ∧ Below w1.heap.size w1 wr) (fun _ i _ => n - (intOf i).toNat)
  case atStart => exact ⟨0, Nat.zero_le _, rfl, World.ownsRow_nil _ _ _ _, Below.refl _ w1⟩
  case round =>
    obtain ⟨j, hj, rfl, own3, hbel3⟩ := hrel
    by_cases hjn : j < n
    · have HH := Lib.hid (holds_any h1 h6 b o c1 wr w1.heap.size (HSQ.out.below hbel3 (Nat.le_refl _) hbB) j hjn)
      have hll := winTo_len n M j
      go_wp2_with fail
      refine HH.out.mono ?_
      rintro e w3 ⟨rfl, qd, rfl⟩
      clear HH
      have own4 := own_drewN own3 qd
      have hbel4 := below_drewN hbel3 qd
      clear own3 hbel3
      generalize wr.drewN qd = w4 at *
      have hz4 := hbel4.size
      cases hp : winB n M j with
      | true =>
        have HY := Lib.hid (winTo_yes hp)
        clear hp
        generalize winTo_ n M j = l at *
        go_wp2_with (at_builtin; go_must (refine push1 rfl _ _ rfl w4 w1.heap.size _ l.length l (j : Int) rfl rfl (by exact own4) hz4 (by omega) ?_))
        intro g5 cap5 w5 own5 gr5 _ _
        have hb5 := hbel4.grown gr5 hz4 (own_not own4)
        clear gr5 own4 hbel4
        go_wp2
        go_roundw
        case rel => exact ⟨j + 1, by omega, by go_num, by rw [HY.out]; simpa using own5, hb5⟩
        case measure => simp [intOf]; omega
      | false =>
        rw [← winTo_no hp] at own4
        clear hp
        go_wp2
        go_roundw
        case rel => exact ⟨j + 1, by omega, by go_num, own4, hbel4⟩
        case measure => simp [intOf]; omega
    · obtain rfl : j = n := by omega
      rw [HEND.out] at own3
      have hend := ext_trans HB1.out hbel3
      have own5 := own_mono own3 hz1
      clear own3 hbel3
      go_wp2
      go_ret2
      exact ⟨_, rfl, own5, hend⟩
theorem wWin : WWin := fun a m c M w ti ht => (wwin_own a m c M w ti ht).mono fun _ _ h => h.ints
end Go.Proofs.Ythcaipnlgbnfkaa

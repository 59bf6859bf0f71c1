/-
  plumelaw.OrderSays returns true, for every two ints and every two slices of ints; nothing that was there is written.
-/
import Derived.Test.YtdbejalcedpdjaaLawFar
import Derived.Test.YtdbejalcedpdjaaRaise
import Derived.Test.YtdbejalcedpdjaaRef
import Derived.Test.YtdbejalcedpdjaaBtw
namespace Go.Proofs.Ytdbejalcedpdjaa
open Go.RowKit Fm
set_option linter.unusedVariables false

/-- The four ways of an order and an alternative: no order; not in it; at its front; behind its front. -/
def Cs (p : List Int) (x k pe re : Int) (un : Nat) (ul : List Int) : Prop :=
  (chk p.length p ≠ 0 ∧ pe = chk p.length p ∧ re = chk p.length p ∧ k = 0 ∧ un = 0 ∧ ul = []) ∨
  (chk p.length p = 0 ∧ x ∉ p ∧ pe = 4 ∧ re = 4 ∧ k = 0 ∧ un = 0 ∧ ul = []) ∨
  (chk p.length p = 0 ∧ p.getD 0 0 = x ∧ pe = 0 ∧ re = 6 ∧ k = 0 ∧ un = 0 ∧ ul = []) ∨
  (∃ j : Nat, chk p.length p = 0 ∧ j + 1 < p.length ∧ p.getD (j + 1) 0 = x ∧ pe = 0 ∧ re = 0 ∧ k = (j + 1 : Nat) ∧ un = p.length ∧ ul = swp p j)

theorem cs_exists (p : List Int) (x : Int) : ∃ k pe re un ul, Cs p x k pe re un ul := by
  by_cases h0 : chk p.length p = 0
  · by_cases hx : x ∈ p
    · obtain ⟨i, hi, rfl⟩ := List.getElem_of_mem hx
      cases i with
      | zero => exact ⟨_, _, _, _, _, .inr (.inr (.inl ⟨h0, getD_get hi, rfl, rfl, rfl, rfl, rfl⟩))⟩
      | succ j => exact ⟨_, _, _, _, _, .inr (.inr (.inr ⟨j, h0, hi, getD_get hi, rfl, rfl, rfl, rfl, rfl⟩))⟩
    · exact ⟨_, _, _, _, _, .inr (.inl ⟨h0, hx, rfl, rfl, rfl, rfl, rfl⟩)⟩
  · exact ⟨_, _, _, _, _, .inl ⟨h0, rfl, rfl, rfl, rfl, rfl⟩⟩

section
variable {p : List Int} {x k pe re : Int} {un : Nat} {ul : List Int} (h : Cs p x k pe re un ul) (a : Option Addr) (n c : Nat) (w : World) (B : Nat) (hB : B ≤ w.heap.size) (hp : Rd w B a n p)
include h hB hp
theorem place_cs : Calls Try.prog 9 #[.slice a n c, .int .i64 x] w fun e w' => e = .returned (.tuple #[.int .i64 k, .int .i64 pe]) ∧ Below w.heap.size w w' := by
  obtain rfl := hp.1
  rcases h with ⟨h0, rfl, rfl, rfl, rfl, rfl⟩ | ⟨h0, hx, rfl, rfl, rfl, rfl, rfl⟩ | ⟨h0, hx, rfl, rfl, rfl, rfl, rfl⟩ | ⟨j, h0, hj, hx, rfl, rfl, rfl, rfl, rfl⟩
  · exact place_bad p x a _ c w B hB hp _ rfl h0
  · exact place_none p x a _ c w B hB hp h0 hx
  · exact place_hit p x a _ c w B hB hp 0 h0 (by have := (chk_zero h0).1; omega) hx
  · exact place_hit p x a _ c w B hB hp (j + 1) h0 hj hx
theorem raise_cs : Calls Try.prog 11 #[.slice a n c, .int .i64 x] w fun e w' => ∃ ua uc, e = .returned (.tuple #[.slice ua un uc, .int .i64 re]) ∧ Rd w' w'.heap.size ua un ul ∧ Below w.heap.size w w' := by
  obtain rfl := hp.1
  rcases h with ⟨h0, rfl, rfl, rfl, rfl, rfl⟩ | ⟨h0, hx, rfl, rfl, rfl, rfl, rfl⟩ | ⟨h0, hx, rfl, rfl, rfl, rfl, rfl⟩ | ⟨j, h0, hj, hx, rfl, rfl, rfl, rfl, rfl⟩
  · exact (raise_bad p x a _ c w B hB hp _ rfl h0).mono fun e w' ⟨he, hb⟩ => ⟨none, 0, he, Rd.nil_, hb⟩
  · exact (raise_none p x a _ c w B hB hp h0 hx).mono fun e w' ⟨he, hb⟩ => ⟨none, 0, he, Rd.nil_, hb⟩
  · exact (raise_first p x a _ c w B hB hp h0 (by have := (chk_zero h0).1; omega) hx).mono fun e w' ⟨he, hb⟩ => ⟨none, 0, he, Rd.nil_, hb⟩
  · exact (raise_hit p x a _ c w B hB hp j h0 hj hx).mono fun e w' ⟨g, cap, he, _, ho, hb⟩ => ⟨_, cap, he, Rd.of_own ho, hb⟩
end

set_option maxHeartbeats 4000000 in
set_option maxRecDepth 100000 in
theorem orderSays_any (n0 : Int) (hn0 : -9223372036854775808 ≤ n0) (hn1 : n0 ≤ 9223372036854775807) (a1 a2 : Option Addr) (n1 c1 n2 c2 : Nat) (p q : List Int) (x : Int) (hx0 : -9223372036854775808 ≤ x) (hx1 : x ≤ 9223372036854775807) (w : World)
    (r1 : Rd w w.heap.size a1 n1 p) (r2 : Rd w w.heap.size a2 n2 q) (hc1 : n1 ≤ c1) (hs1 : n1 * 8 ≤ 140737488355328) (hs2 : n2 * 8 ≤ 140737488355328) :
    Calls Try.prog 4 #[.int .i64 n0, .slice a1 n1 c1, .slice a2 n2 c2, .int .i64 x] w fun e w' => e = .returned (.bool true) ∧ Below w.heap.size w w' := by
  obtain rfl := r1.1
  obtain ⟨k, pe, re, un, ul, hcs⟩ := cs_exists p x
  have HCS := Lib.hid hcs
  have R1 := Lib.hid r1
  have R2 := Lib.hid r2
  clear hcs r1 r2
  go_enter Try.func4, Try.ntmps4
  go_wp2_with fail
  refine (place_cs HCS.out a1 p.length c1 w w.heap.size (Nat.le_refl _) R1.out).mono ?_
  rintro e w1 ⟨rfl, hb1⟩
  have z1 := hb1.size
  go_wp2_with fail
  refine (far_any p q a1 a2 p.length c1 n2 c2 w1 w.heap.size z1 (R1.out.below hb1 (Nat.le_refl _)) (R2.out.below hb1 (Nat.le_refl _)) hc1).mono ?_
  rintro e w2 ⟨rfl, hb2⟩
  have z2 := hb2.size
  have hb02 := hb1.trans (hb2.mono z1)
  clear hb1 hb2
  go_wp2_with fail
  refine (raise_cs HCS.out a1 p.length c1 w2 w.heap.size (by omega) (R1.out.below hb02 (Nat.le_refl _))).mono ?_
  rintro e w3 ⟨ua, uc, rfl, ru, hb3⟩
  have z3 := hb3.size
  have hb03 := hb02.trans (hb3.mono (by omega))
  have RU := Lib.hid ru
  clear hb02 hb3 ru
  generalize hfd : farD p q = fd at *
  generalize hfe : farE p q = fe at *
  have HFD := Lib.hid hfd
  have HFE := Lib.hid hfe
  clear hfd hfe
  have hcase : n0 < 1 ∨ (¬ n0 < 1 ∧ 6 < n0) ∨ (¬ n0 < 1 ∧ ¬ 6 < n0) := by omega
  rcases hcase with hbad | ⟨hbad1, hbad⟩ | ⟨hg1, hg2⟩
  -- n below 1
  go_wp2_with fail
  refine (all_arg n0 w3 (.inl hbad)).mono ?_
  rintro e w' ⟨rfl, rfl⟩
  go_wp2_with fail
  refine (check_any n0 a1 p.length c1 p w3 w.heap.size (by omega) (R1.out.below hb03 (Nat.le_refl _))).mono ?_
  rintro e w4 ⟨rfl, hb4⟩
  have z4 := hb4.size
  have hb04 := hb03.trans (hb4.mono (by omega))
  go_wp2_with fail
  refine (orderErr_any n0 a1 p.length c1 p w4 w.heap.size (by omega) (R1.out.below hb04 (Nat.le_refl _)) hs1).mono ?_
  rintro e wz ⟨rfl, hb5⟩
  have hbz : Below w3.heap.size w3 wz := hb4.trans (hb5.mono (by omega))
  clear hb4 hb5 hb04 z4
  generalize chk n0 p = cc at *
  go_wp2_with fail
  rotate_left
  -- n above 6
  go_wp2_with fail
  refine (all_arg n0 w3 (.inr hbad)).mono ?_
  rintro e w' ⟨rfl, rfl⟩
  go_wp2_with fail
  refine (check_any n0 a1 p.length c1 p w3 w.heap.size (by omega) (R1.out.below hb03 (Nat.le_refl _))).mono ?_
  rintro e w4 ⟨rfl, hb4⟩
  have z4 := hb4.size
  have hb04 := hb03.trans (hb4.mono (by omega))
  go_wp2_with fail
  refine (orderErr_any n0 a1 p.length c1 p w4 w.heap.size (by omega) (R1.out.below hb04 (Nat.le_refl _)) hs1).mono ?_
  rintro e wz ⟨rfl, hb5⟩
  have hbz : Below w3.heap.size w3 wz := hb4.trans (hb5.mono (by omega))
  clear hb4 hb5 hb04 z4
  generalize chk n0 p = cc at *
  go_wp2_with fail
  rotate_left
  -- n from 1 to 6
  obtain ⟨N, rfl⟩ : ∃ N : Nat, n0 = N := ⟨n0.toNat, by omega⟩
  have hN1 : 1 ≤ N := by omega
  have hN6 : N ≤ 6 := by omega
  go_wp2_with fail
  refine (all_any N w3 hN1 hN6).mono ?_
  rintro e w4 ⟨v4, vs4, rfl, ov4, oe4, hb4⟩
  have z4 := hb4.size
  have hb04 := hb03.trans (hb4.mono (by omega))
  obtain ⟨g4, cap4, rfl, _, _⟩ := ov4.form (by rw [allO_len hN1 hN6]; exact fact_ge N)
  go_wp2_with fail
  refine (check_any N a1 p.length c1 p w4 w.heap.size (by omega) (R1.out.below hb04 (Nat.le_refl _))).mono ?_
  rintro e w5 ⟨rfl, hb5⟩
  have z5 := hb5.size
  have hb05 := hb04.trans (hb5.mono (by omega))
  go_wp2_with fail
  refine (orderErr_any N a1 p.length c1 p w5 w.heap.size (by omega) (R1.out.below hb05 (Nat.le_refl _)) hs1).mono ?_
  rintro e w6 ⟨rfl, hb6⟩
  have z6 := hb6.size
  have hb46 : Below w4.heap.size w4 w6 := hb5.trans (hb6.mono (by omega))
  clear hb5 hb6 hb04 hb05
  generalize chk N p = cc at *
  go_wp2_with fail
  refine (sides_any N w6 (by omega)).mono ?_
  rintro e w7 ⟨v7, rfl, o7, hb7⟩
  obtain ⟨a7, c7, rfl, hc7, hc7'⟩ := own_slice o7
  have z7 := hb7.size
  go_wp2_with fail
  refine (allOrders_any N hN6 (sides N) a7 c7 w7 w7.heap.size (sides_len N) (Nat.le_refl _) hc7 hc7' (Rd.of_own o7)).mono ?_
  rintro e w8 ⟨v8, vs8, rfl, ov8, oe8, hb8⟩
  have z8 := hb8.size
  have hb48 : Below w4.heap.size w4 w8 := (hb46.trans (hb7.mono (by omega))).trans (hb8.mono (by omega))
  have ov48 := own_below ov4 hb48 (Nat.le_refl _)
  have oe48 := oe4.below hb48 (Nat.le_refl _)
  obtain ⟨g8, cap8, rfl, _, _⟩ := ov8.form (by have := allO_len hN1 hN6; unfold allO at this; rw [this]; exact fact_ge N)
  have hrow := Lib.hid (rows_same (allO N) _ _ vs4 vs8 _ _ w8 (by have := allO_le hN1 hN6; omega) (fun j hj => by
    have hm : (allO N).getD j [] ∈ allO N := by rw [List.getD_eq_getElem?_getD, List.getElem?_eq_getElem hj]; exact List.getElem_mem hj
    have := (mem_allO.1 hm).length_eq
    rw [sides_len] at this
    omega) ov48 oe48 ov8 oe8 (by rw [allO_len hN1 hN6]; exact fact_ge N))
  clear ov48 oe48 ov8 oe8 ov4 oe4 o7
  go_wp2_with fail
  refine hrow.out.mono ?_
  rintro e w9 ⟨rfl, kq, rfl⟩
  have hbz : Below w3.heap.size w3 (w8.drewN kq) := below_drewN (hb4.trans (hb48.mono (by omega))) kq
  clear hb46 hb7 hb8 hb48 hb4 hrow
  generalize w8.drewN kq = wz at *
  go_wp2_with fail
  rotate_left
  all_goals
    have zz := hbz.size
    have hb0z : Below w.heap.size w wz := hb03.trans (hbz.mono (by omega))
    refine (orderErr_any p.length a1 p.length c1 p wz w.heap.size (by omega) (R1.out.below hb0z (Nat.le_refl _)) hs1).mono ?_
    rintro e wy ⟨rfl, hby⟩
    have zy := hby.size
    have hb0y : Below w.heap.size w wy := hb0z.trans (hby.mono (by omega))
    have hb3y : Below w3.heap.size w3 wy := hbz.trans (hby.mono (by omega))
    clear hbz hby hb0z
    by_cases h0 : chk p.length p = 0
    · have hfe : fe = chk p.length q := by rw [← HFE.out]; unfold farE; rw [if_neg (by simpa using h0)]
      rw [h0]
      have H0 := Lib.hid h0
      have hn6 := (chk_zero h0).1
      have hpp : Hid (p.Perm (sides p.length)) := isOrd_perm rfl (chk_zero h0).2.2
      clear h0
      go_wp2_with fail
      refine (orderErr_any p.length a2 n2 c2 q wy w.heap.size (by omega) (R2.out.below hb0y (Nat.le_refl _)) hs2).mono ?_
      rintro e wx ⟨rfl, hbx⟩
      have zx := hbx.size
      have hb0x : Below w.heap.size w wx := hb0y.trans (hbx.mono (by omega))
      have hb3x : Below w3.heap.size w3 wx := hb3y.trans (hbx.mono (by omega))
      clear hbx hb0y hb3y
      rw [← hfe]
      by_cases hq0 : fe = 0
      · have hq0' : chk p.length q = 0 := by rw [← hfe]; exact hq0
        obtain ⟨_, hlq, hoq⟩ := chk_zero hq0'
        have hqq : Hid (q.Perm (sides p.length)) := isOrd_perm (by omega) hoq
        have hn2 : n2 = p.length := by have := R2.out.1; omega
        have hfd : fd = inv p q := by rw [← HFD.out]; unfold farD; rw [if_pos (by rw [HFE.out]; exact hq0)]
        subst hn2
        subst hq0
        subst hfd
        clear hfe hq0' hlq hoq
        go_wp2_with fail
        refine (between_any hpp.out hqq.out (by omega) (by omega) a1 a2 c1 c2 wx w.heap.size (by omega) (R1.out.below hb0x (Nat.le_refl _)) (R2.out.below hb0x (Nat.le_refl _))).mono ?_
        rintro e wv ⟨rfl, hbv⟩
        have zv := hbv.size
        have hb0v : Below w.heap.size w wv := hb0x.trans (hbv.mono (by omega))
        have hb3v : Below w3.heap.size w3 wv := hb3x.trans (hbv.mono (by omega))
        clear hbv hb0x hb3x
        generalize inv p q = dd at *
        go_wp2_with fail
        refine (index_any p x a1 p.length c1 wv w.heap.size (R1.out.below hb0v (Nat.le_refl _)) (by omega)).mono ?_
        rintro e w' ⟨rfl, rfl⟩
        have np := hpp.out.nodup_iff.2 (sides_nodup p.length)
        have hr := HCS.out
        rcases hr with ⟨h, _⟩ | ⟨_, hx, hpe, hre, hk, hun, hul⟩ | ⟨_, hx, hpe, hre, hk, hun, hul⟩ | ⟨j, _, hj, hx, hpe, hre, hk, hun, hul⟩
        · exact absurd H0.out h
        · rw [idx_miss hx]
          subst hpe; subst hre; subst hk; subst hun
          clear hx np HCS HFE HFD
          go_wp2
          go_ret
          exact ⟨rfl, hb0v⟩
        · rw [idx_hit np (by omega) hx]
          subst hpe; subst hre; subst hk; subst hun
          clear hx np HCS HFE HFD
          go_wp2
          go_ret
          exact ⟨rfl, hb0v⟩
        · rw [idx_hit np hj hx]
          subst hpe; subst hre; subst hk; subst hun; subst hul
          clear hx np HCS HFE HFD
          have hne : ((j : Int) + 1 == 0) = false := by simp; omega
          go_wp2_with fail
          refine (clone_any p a1 p.length c1 wv w.heap.size (R1.out.below hb0v (Nat.le_refl _)) hs1).mono ?_
          rintro e wu ⟨v, rfl, hown, hbu⟩
          obtain ⟨g, cap, rfl, hg1, hg2, hnc, hcm, hcell⟩ := own_form hown (by omega)
          have zu := hbu.size
          have zw3 := hb3v.size
          have zw0 := hb0v.size
          have d0 := hcell j (by omega)
          have d1 := hcell (j + 1) hj
          have f0 := hown.frozenAt j
          have f1 := hown.frozenAt (j + 1)
          have HO := Lib.hid hown
          have hb0u : Below w.heap.size w wu := hb0v.trans (hbu.mono hb0v.size)
          have hb3u : Below w3.heap.size w3 wu := hb3v.trans (hbu.mono hb3v.size)
          clear hcell hown hbu hb0v hb3v
          unfold maxLen at hcm
          generalize hy0 : p.getD j 0 = y0 at d0
          generalize hy1 : p.getD (j + 1) 0 = y1 at d1
          have HY0 := Lib.hid hy0
          have HY1 := Lib.hid hy1
          clear hy0 hy1
          have k0 : (j : Int) < (p.length : Int) := by omega
          have k1 : (j : Int) + 1 < (p.length : Int) := by omega
          go_wp2_with fail
          go_region
          have s1 := HO.out.stored j (.int .i64 y1)
          have s2 := s1.1.stored (j + 1) (.int .i64 y0)
          have e1 : ((I p).set j (.int .i64 y1)).set (j + 1) (.int .i64 y0) = I (swp p j) := by unfold I swp; rw [HY0.out, HY1.out, List.map_set, List.map_set]
          rw [e1] at s2
          have hb0t := (hb0u.grown s1.2 hb0u.size (fun y hy => by injection hy with hy; omega)).grown s2.2 (by have := s1.2.size; omega) (fun y hy => by injection hy with hy; omega)
          have hb3t := (hb3u.grown s1.2 hb3u.size (fun y hy => by injection hy with hy; omega)).grown s2.2 (by have := s1.2.size; omega) (fun y hy => by injection hy with hy; omega)
          have ru2 := (RU.out.below hb3t (Nat.le_refl _)).more hb3t.size
          have rw2 := Rd.of_own s2.1
          clear s1 s2 e1 hb3t hb3u hb0u
          go_wp2_with fail
          refine (equal_any (swp p j) (swp p j) ua (some ⟨g, 0, none⟩) p.length uc p.length cap _ _ ru2.drew rw2.drew (by omega) (by omega)).mono ?_
          rintro e wt ⟨rfl, kq, rfl⟩
          go_wp2
          go_ret
          exact ⟨rfl, below_drewN hb0t _⟩
      · have hfd : fd = 0 := by rw [← HFD.out]; unfold farD; rw [if_neg (by rw [HFE.out]; exact hq0)]
        subst hfd
        have hqe : (fe != 0) = true := by simpa using hq0
        have hqe2 : (fe == 0) = false := by simpa using hq0
        clear hfe hq0
        have hb0v := hb0x
        have hb3v := hb3x
        have zv : wx.heap.size ≤ wx.heap.size := Nat.le_refl _
        generalize hwv : wx = wv at hb0v hb3v zv ⊢
        clear hwv hb0x hb3x
        go_wp2_with fail
        refine (index_any p x a1 p.length c1 wv w.heap.size (R1.out.below hb0v (Nat.le_refl _)) (by omega)).mono ?_
        rintro e w' ⟨rfl, rfl⟩
        have np := hpp.out.nodup_iff.2 (sides_nodup p.length)
        have hr := HCS.out
        rcases hr with ⟨h, _⟩ | ⟨_, hx, hpe, hre, hk, hun, hul⟩ | ⟨_, hx, hpe, hre, hk, hun, hul⟩ | ⟨j, _, hj, hx, hpe, hre, hk, hun, hul⟩
        · exact absurd H0.out h
        · rw [idx_miss hx]
          subst hpe; subst hre; subst hk; subst hun
          clear hx np HCS HFE HFD
          go_wp2
          go_ret
          exact ⟨rfl, hb0v⟩
        · rw [idx_hit np (by omega) hx]
          subst hpe; subst hre; subst hk; subst hun
          clear hx np HCS HFE HFD
          go_wp2
          go_ret
          exact ⟨rfl, hb0v⟩
        · rw [idx_hit np hj hx]
          subst hpe; subst hre; subst hk; subst hun; subst hul
          clear hx np HCS HFE HFD
          have hne : ((j : Int) + 1 == 0) = false := by simp; omega
          go_wp2_with fail
          refine (clone_any p a1 p.length c1 wv w.heap.size (R1.out.below hb0v (Nat.le_refl _)) hs1).mono ?_
          rintro e wu ⟨v, rfl, hown, hbu⟩
          obtain ⟨g, cap, rfl, hg1, hg2, hnc, hcm, hcell⟩ := own_form hown (by omega)
          have zu := hbu.size
          have zw3 := hb3v.size
          have zw0 := hb0v.size
          have d0 := hcell j (by omega)
          have d1 := hcell (j + 1) hj
          have f0 := hown.frozenAt j
          have f1 := hown.frozenAt (j + 1)
          have HO := Lib.hid hown
          have hb0u : Below w.heap.size w wu := hb0v.trans (hbu.mono hb0v.size)
          have hb3u : Below w3.heap.size w3 wu := hb3v.trans (hbu.mono hb3v.size)
          clear hcell hown hbu hb0v hb3v
          unfold maxLen at hcm
          generalize hy0 : p.getD j 0 = y0 at d0
          generalize hy1 : p.getD (j + 1) 0 = y1 at d1
          have HY0 := Lib.hid hy0
          have HY1 := Lib.hid hy1
          clear hy0 hy1
          have k0 : (j : Int) < (p.length : Int) := by omega
          have k1 : (j : Int) + 1 < (p.length : Int) := by omega
          go_wp2_with fail
          go_region
          have s1 := HO.out.stored j (.int .i64 y1)
          have s2 := s1.1.stored (j + 1) (.int .i64 y0)
          have e1 : ((I p).set j (.int .i64 y1)).set (j + 1) (.int .i64 y0) = I (swp p j) := by unfold I swp; rw [HY0.out, HY1.out, List.map_set, List.map_set]
          rw [e1] at s2
          have hb0t := (hb0u.grown s1.2 hb0u.size (fun y hy => by injection hy with hy; omega)).grown s2.2 (by have := s1.2.size; omega) (fun y hy => by injection hy with hy; omega)
          have hb3t := (hb3u.grown s1.2 hb3u.size (fun y hy => by injection hy with hy; omega)).grown s2.2 (by have := s1.2.size; omega) (fun y hy => by injection hy with hy; omega)
          have ru2 := (RU.out.below hb3t (Nat.le_refl _)).more hb3t.size
          have rw2 := Rd.of_own s2.1
          clear s1 s2 e1 hb3t hb3u hb0u
          go_wp2_with fail
          refine (equal_any (swp p j) (swp p j) ua (some ⟨g, 0, none⟩) p.length uc p.length cap _ _ ru2.drew rw2.drew (by omega) (by omega)).mono ?_
          rintro e wt ⟨rfl, kq, rfl⟩
          go_wp2
          go_ret
          exact ⟨rfl, below_drewN hb0t _⟩
    · have hr := HCS.out
      rcases hr with ⟨_, hpe, hre, hk, hun, hul⟩ | ⟨h, _⟩ | ⟨h, _⟩ | ⟨j, h, _⟩
      · have hfe : fe = chk p.length p := by rw [← HFE.out]; unfold farE; rw [if_pos h0]
        have hfd : fd = 0 := by
          rw [← HFD.out]; unfold farD
          rw [if_neg (by rw [HFE.out, hfe]; exact h0)]
        have hne : (chk p.length p != 0) = true := by simpa using h0
        generalize chk p.length p = cp at *
        subst hpe; subst hre; subst hk; subst hun; subst hfe; subst hfd
        clear h0 HCS HFE HFD
        go_wp2
        go_ret
        exact ⟨rfl, hb0y⟩
      · exact absurd h h0
      · exact absurd h h0
      · exact absurd h h0
end Go.Proofs.Ytdbejalcedpdjaa

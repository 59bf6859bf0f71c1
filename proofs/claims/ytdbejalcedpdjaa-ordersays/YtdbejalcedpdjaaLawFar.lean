/-
  plumekeep.orders and plumekeep.OrderFar return true, for every int and every three slices of ints; nothing that was there is written.
-/
import Derived.Test.YtdbejalcedpdjaaFar
import Derived.Test.YtdbejalcedpdjaaKeep
import Derived.Test.YtdbejalcedpdjaaGood
import Derived.Test.YtdbejalcedpdjaaOrdMath
namespace Go.Proofs.Ytdbejalcedpdjaa
open Go.RowKit Fm
set_option linter.unusedVariables false

theorem ret_true {b : Bool} (h : b = true) : Ending.returned (.bool b) = .returned (.bool true) := by rw [h]

theorem inv_le {n : Nat} {p q : List Int} (hp : p.length = n) (hn : n ≤ 6) : inv p q ≤ 36 := by
  have h := invTo_le (atTo q q.length) p p.length
  rw [hp] at h
  have h2 : n * n ≤ 6 * 6 := Nat.mul_le_mul hn hn
  unfold inv; rw [hp]; omega

/-- order.Far at two orders. -/
theorem far_perm {n : Nat} {p q : List Int} (hp : p.Perm (sides n)) (hq : q.Perm (sides n)) (h1 : 1 ≤ n) (h6 : n ≤ 6) (a a2 : Option Addr) (c c2 : Nat) (w : World) (B : Nat) (hB : B ≤ w.heap.size)
    (rp : Rd w B a n p) (rq : Rd w B a2 n q) (hnc : n ≤ c) :
    Calls Try.prog 10 #[.slice a n c, .slice a2 n c2] w fun e w' => e = .returned (.tuple #[.int .i64 (inv p q), .int .i64 0]) ∧ Below w.heap.size w w' := by
  have lp := hp.length_eq
  have lq := hq.length_eq
  rw [sides_len] at lp lq
  have c1 : chk n p = 0 := chk_perm hp h1 h6
  have c2' : chk n q = 0 := chk_perm hq h1 h6
  have e1 : farE p q = 0 := by unfold farE; rw [lp, if_neg (by simpa using c1), c2']
  have e2 : farD p q = inv p q := by unfold farD; rw [if_pos e1]
  have h := far_any p q a a2 n c n c2 w B hB rp rq hnc
  rw [e1, e2] at h
  exact h

set_option maxHeartbeats 400000 in
theorem orders_any (w : World) : Calls Try.prog 21 #[] w fun e w' => e = .returned (.bool true) ∧ Below w.heap.size w w' := by
  have H := Lib.hid (show inv [0, 1, 2] [2, 0, 1] = 2 by decide)
  have r1 := (Rd.lit w 3 [0, 1, 2] #[.int .i64 0, .int .i64 1, .int .i64 2] rfl).alloc (by simp) (.cells #[.int .i64 2, .int .i64 0, .int .i64 1] 3)
  have r2 := Rd.lit (w.alloc (.cells #[.int .i64 0, .int .i64 1, .int .i64 2] 3)) 3 [2, 0, 1] #[.int .i64 2, .int .i64 0, .int .i64 1] rfl
  have s1 : (w.alloc (.cells #[.int .i64 0, .int .i64 1, .int .i64 2] 3)).heap.size = w.heap.size + 1 := by simp
  rw [s1] at r2
  have r1' := r1.more (B' := w.heap.size + 1 + 1) (by omega)
  have HC := Lib.hid (far_perm (n := 3) (p := [0, 1, 2]) (q := [2, 0, 1]) (List.Perm.refl _) (by decide) (by omega) (by omega) _ _ 3 3 _ (w.heap.size + 1 + 1) (by simp) r1' r2 (by omega))
  rw [H.out] at HC
  clear r1 r2 s1 r1' H
  go_enter Try.func21, Try.ntmps21
  go_wp2_with fail
  refine HC.out.mono ?_
  rintro e w1 ⟨rfl, hb⟩
  clear HC
  have hb' : Below w.heap.size w w1 := (((Below.refl _ w).alloc (Nat.le_refl _) _).alloc (by simp) _).trans (hb.mono (by simp; omega))
  clear hb
  go_wp2
  go_ret
  exact ⟨rfl, hb'⟩

set_option maxHeartbeats 2000000 in
theorem orderFar_any (k : Int) (hk0 : -9223372036854775808 ≤ k) (hk1 : k ≤ 9223372036854775807) (a1 a2 a3 : Option Addr) (n1 c1 n2 c2 n3 c3 : Nat) (x y z : List Int) (w : World)
    (r1 : Rd w w.heap.size a1 n1 x) (r2 : Rd w w.heap.size a2 n2 y) (r3 : Rd w w.heap.size a3 n3 z)
    (b1 : ∀ u ∈ x, -9223372036854775808 ≤ u ∧ u ≤ 9223372036854775807) (b2 : ∀ u ∈ y, -9223372036854775808 ≤ u ∧ u ≤ 9223372036854775807) (b3 : ∀ u ∈ z, -9223372036854775808 ≤ u ∧ u ≤ 9223372036854775807) :
    Calls Try.prog 5 #[.int .i64 k, .slice a1 n1 c1, .slice a2 n2 c2, .slice a3 n3 c3] w fun e w' => e = .returned (.bool true) ∧ Below w.heap.size w w' := by
  have R1 := Lib.hid r1
  have R2 := Lib.hid r2
  have R3 := Lib.hid r3
  have B1 := Lib.hid b1
  have B2 := Lib.hid b2
  have B3 := Lib.hid b3
  clear r1 r2 r3 b1 b2 b3
  obtain ⟨n, hn⟩ : ∃ n : Nat, 1 + k % 6 = n := ⟨(1 + k % 6).toNat, by omega⟩
  have h1 : 1 ≤ n := by omega
  have h6 : n ≤ 6 := by omega
  have HN := Lib.hid hn
  clear hn
  go_enter Try.func5, Try.ntmps5
  go_wp2_with fail
  refine (orders_any w).mono ?_
  rintro e w0 ⟨rfl, hb0⟩
  have z0 := hb0.size
  go_wp2_with fail
  refine (within_any k 6 w0 hk0 hk1 (by omega) (by omega)).mono ?_
  rintro e w' ⟨rfl, rfl⟩
  have hm0 : 0 ≤ k % 6 := by omega
  have hm1 : k % 6 < 6 := by omega
  go_wp2_with fail
  rw [HN.out]
  refine (orderOf_any n a1 n1 c1 x w0 w.heap.size z0 (R1.out.below hb0 (Nat.le_refl _)) h1 h6 B1.out).mono ?_
  rintro e w1 ⟨v1, rfl, o1, hb1⟩
  obtain ⟨p1, cp, rfl, hcp, _⟩ := own_slice o1
  have z1 := hb1.size
  have hb01 : Below w.heap.size w w1 := hb0.trans (hb1.mono z0)
  have q1 := Rd.of_own o1
  clear o1
  go_wp2_with fail
  refine (orderOf_any n a2 n2 c2 y w1 w.heap.size (by omega) (R2.out.below hb01 (Nat.le_refl _)) h1 h6 B2.out).mono ?_
  rintro e w2 ⟨v2, rfl, o2, hb2⟩
  obtain ⟨p2, cq, rfl, hcq, _⟩ := own_slice o2
  have z2 := hb2.size
  have hb02 : Below w.heap.size w w2 := hb01.trans (hb2.mono (by omega))
  have q1' := q1.below hb2 (Nat.le_refl _)
  have q2 := Rd.of_own o2
  clear o2 q1
  go_wp2_with fail
  refine (orderOf_any n a3 n3 c3 z w2 w.heap.size (by omega) (R3.out.below hb02 (Nat.le_refl _)) h1 h6 B3.out).mono ?_
  rintro e w3 ⟨v3, rfl, o3, hb3⟩
  obtain ⟨p3, cr, rfl, hcr, _⟩ := own_slice o3
  have z3 := hb3.size
  have hb03 : Below w.heap.size w w3 := hb02.trans (hb3.mono (by omega))
  have Q1 := Lib.hid ((q1'.below hb3 z2).more (Nat.le_trans z2 z3))
  have Q2 := Lib.hid ((q2.below hb3 (Nat.le_refl _)).more z3)
  have Q3 := Lib.hid (Rd.of_own o3)
  clear q1' q2 o3 hb0 hb1 hb2 hb3 hb01 hb02 R1 R2 R3 B1 B2 B3
  have HP := Lib.hid (ordOf_perm n x)
  have HQ := Lib.hid (ordOf_perm n y)
  have HR := Lib.hid (ordOf_perm n z)
  generalize ordOf n x = P at *
  generalize ordOf n y = Q at *
  generalize ordOf n z = R at *
  go_wp2_with fail
  refine (far_perm HP.out HQ.out h1 h6 p1 p2 cp cq w3 w3.heap.size (Nat.le_refl _) Q1.out Q2.out hcp).mono ?_
  rintro e w4 ⟨rfl, hb4⟩
  have z4 := hb4.size
  go_wp2_with fail
  refine (far_perm HQ.out HP.out h1 h6 p2 p1 cq cp w4 w3.heap.size z4 (Q2.out.below hb4 (Nat.le_refl _)) (Q1.out.below hb4 (Nat.le_refl _)) hcq).mono ?_
  rintro e w5 ⟨rfl, hb5⟩
  have z5 := hb5.size
  have hb45 : Below w3.heap.size w3 w5 := hb4.trans (hb5.mono z4)
  go_wp2_with fail
  refine (far_perm HQ.out HR.out h1 h6 p2 p3 cq cr w5 w3.heap.size (by omega) (Q2.out.below hb45 (Nat.le_refl _)) (Q3.out.below hb45 (Nat.le_refl _)) hcq).mono ?_
  rintro e w6 ⟨rfl, hb6⟩
  have z6 := hb6.size
  have hb46 : Below w3.heap.size w3 w6 := hb45.trans (hb6.mono (by omega))
  go_wp2_with fail
  refine (far_perm HP.out HR.out h1 h6 p1 p3 cp cr w6 w3.heap.size (by omega) (Q1.out.below hb46 (Nat.le_refl _)) (Q3.out.below hb46 (Nat.le_refl _)) hcp).mono ?_
  rintro e w7 ⟨rfl, hb7⟩
  have z7 := hb7.size
  have hb47 : Below w3.heap.size w3 w7 := hb46.trans (hb7.mono (by omega))
  clear hb4 hb5 hb6 hb7 hb45 hb46
  have lP := HP.out.length_eq
  have lQ := HQ.out.length_eq
  rw [sides_len] at lP lQ
  have hA : inv P Q ≤ 36 := inv_le lP h6
  have hC : inv Q R ≤ 36 := inv_le lQ h6
  have hT : inv P R ≤ inv P Q + inv Q R := inv_tri HP.out HQ.out HR.out
  have hE : Hid (P = Q ↔ inv P Q = 0) := ⟨fun e => by rw [← e]; exact inv_self (HP.out.nodup_iff.2 (sides_nodup n)), fun e => inv_eq HP.out HQ.out e⟩
  rw [inv_symm HQ.out HP.out]
  generalize inv P Q = A at *
  generalize inv Q R = C at *
  generalize inv P R = D at *
  clear lP lQ
  have hg : ∀ W : World, Calls Try.prog 24 #[.slice (some ⟨W.heap.size, 0, none⟩) 4 4] (W.alloc (.cells #[.int .i64 0, .int .i64 0, .int .i64 0, .int .i64 0] 25)) fun e w' => e = .returned (.bool true) ∧ (W.alloc (.cells #[.int .i64 0, .int .i64 0, .int .i64 0, .int .i64 0] 25)) = w' := fun W =>
    good_zero W.heap.size 0 4 4 _ (by omega) (fun j hj => by
      rw [Nat.zero_add, World.cell?_alloc_new]
      match j, hj with
      | 0, _ => rfl
      | 1, _ => rfl
      | 2, _ => rfl
      | 3, _ => rfl)
  have HG := Lib.hid hg
  clear hg
  have hq : ∀ o, Calls Try.prog 8 #[.slice p1 n cp, .slice p2 n cq] (w7.alloc o) fun e w' => e = .returned (.bool (decide (P = Q))) ∧ ∃ k, w' = (w7.alloc o).drewN k := fun o =>
    equal_any P Q p1 p2 n cp n cq _ w3.heap.size ((Q1.out.below hb47 (Nat.le_refl _)).alloc hb47.size o) ((Q2.out.below hb47 (Nat.le_refl _)).alloc hb47.size o) (by omega) (by omega)
  have HEq := Lib.hid hq
  clear hq
  have hfin : Below w.heap.size w w7 := hb03.trans (hb47.mono (by omega))
  have hT' : (D : Int) ≤ (A : Int) + (C : Int) := by omega
  by_cases hPQ : P = Q
  · have hA0 : A = 0 := hE.out.1 hPQ
    subst hA0
    have hd : decide (P = Q) = true := by simpa using hPQ
    have HDD := Lib.hid hd
    clear hPQ hd
    go_wp2_with fail
    refine (HG.out w7).mono ?_
    rintro e w8 ⟨rfl, rfl⟩
    go_wp2_with fail
    refine (HEq.out _).mono ?_
    rintro e w8 ⟨rfl, kq, rfl⟩
    rw [HDD.out]
    go_wp2
    go_ret
    exact ⟨ret_true (decide_eq_true (by omega)), below_drewN (hfin.alloc (by omega) _) _⟩
  · have hA0 : ((A : Int) == 0) = false := by
      have : A ≠ 0 := fun e => hPQ (hE.out.2 e)
      simp; omega
    have hd : decide (P = Q) = false := by simpa using hPQ
    have HDD := Lib.hid hd
    clear hPQ hd
    go_wp2_with fail
    refine (HG.out w7).mono ?_
    rintro e w8 ⟨rfl, rfl⟩
    go_wp2_with fail
    refine (HEq.out _).mono ?_
    rintro e w8 ⟨rfl, kq, rfl⟩
    rw [HDD.out]
    go_wp2
    go_ret
    exact ⟨rfl, below_drewN (hfin.alloc (by omega) _) _⟩
end Go.Proofs.Ytdbejalcedpdjaa

/-
  plumekeep.OrderRaise returns true, for every two ints and every slice of ints; nothing that was there is written.
-/
import Derived.Test.YtdbejalcedpdjaaLawFar
import Derived.Test.YtdbejalcedpdjaaRaise
namespace Go.Proofs.Ytdbejalcedpdjaa
open Go.RowKit Fm
set_option linter.unusedVariables false

theorem zeros_at (w : World) (t : TypeId) (n : Nat) (cs : Array Value) (hcs : cs = (List.replicate n (Value.int .i64 0)).toArray) : ∀ j, j < n → (w.alloc (.cells cs t)).cell? ⟨w.heap.size, 0 + j, none⟩ = some (.int .i64 0) := by
  intro j hj
  subst hcs
  rw [Nat.zero_add, World.cell?_alloc_new]
  simp [hj]

theorem half_go {n T : Nat} (h1 : 1 ≤ n) (h6 : n ≤ 6) (hT : n * (n - 1) / 2 = T) : (((T : Int) != wrap64 ((wrap64 ((n : Int) * ((n : Int) - 1))).tdiv 2)) = false) ∧ T ≤ 15 ∧ (2 ≤ n → 1 ≤ T) := by
  subst hT
  match n, h1, h6 with
  | 1, _, _ => exact (by decide +kernel)
  | 2, _, _ => exact (by decide +kernel)
  | 3, _, _ => exact (by decide +kernel)
  | 4, _, _ => exact (by decide +kernel)
  | 5, _, _ => exact (by decide +kernel)
  | 6, _, _ => exact (by decide +kernel)

/-- order.Raise at three orders, as the laws try it first. -/
theorem raise_three (w : World) :
    Calls Try.prog 11 #[.slice (some ⟨w.heap.size, 0, none⟩) 3 3, .int .i64 2] (w.alloc (.cells #[.int .i64 0, .int .i64 1, .int .i64 2] 3)) fun e w' =>
      ∃ g cap, e = .returned (.tuple #[.slice (some ⟨g, 0, none⟩) 3 cap, .int .i64 0]) ∧ Rd w' w'.heap.size (some ⟨g, 0, none⟩) 3 [0, 2, 1] ∧ Below w.heap.size w w' := by
  have r1 := Rd.lit w 3 [0, 1, 2] #[.int .i64 0, .int .i64 1, .int .i64 2] rfl
  refine (raise_hit [0, 1, 2] 2 _ 3 3 _ (w.heap.size + 1) (by simp) r1 1 (by decide) (by omega) rfl).mono ?_
  rintro e w1 ⟨g, cap, rfl, _, hown, hb⟩
  exact ⟨g, cap, rfl, Rd.of_own hown, ((Below.refl _ w).alloc (Nat.le_refl _) _).trans (hb.mono (by simp))⟩

set_option maxHeartbeats 2000000 in
theorem orderRaise_any (k0 : Int) (hk0 : -9223372036854775808 ≤ k0) (hk1 : k0 ≤ 9223372036854775807) (a1 : Option Addr) (n1 c1 : Nat) (x : List Int) (y : Int) (hy0 : -9223372036854775808 ≤ y) (hy1 : y ≤ 9223372036854775807) (w : World)
    (r1 : Rd w w.heap.size a1 n1 x) (b1 : ∀ u ∈ x, -9223372036854775808 ≤ u ∧ u ≤ 9223372036854775807) :
    Calls Try.prog 6 #[.int .i64 k0, .slice a1 n1 c1, .int .i64 y] w fun e w' => e = .returned (.bool true) ∧ Below w.heap.size w w' := by
  have R1 := Lib.hid r1
  have B1 := Lib.hid b1
  clear r1 b1
  obtain ⟨n, hn⟩ : ∃ n : Nat, 1 + k0 % 6 = n := ⟨(1 + k0 % 6).toNat, by omega⟩
  have h1 : 1 ≤ n := by omega
  have h6 : n ≤ 6 := by omega
  have HN := Lib.hid hn
  clear hn
  go_enter Try.func6, Try.ntmps6
  go_wp2_with fail
  refine (raise_three w).mono ?_
  rintro e w1 ⟨g, cap, rfl, rd1, hb1⟩
  have z1 := hb1.size
  have r2 := Rd.lit w1 3 [0, 2, 1] #[.int .i64 0, .int .i64 2, .int .i64 1] rfl
  have HE := Lib.hid (equal_any [0, 2, 1] [0, 2, 1] _ _ 3 cap 3 3 _ (w1.heap.size + 1) ((rd1.alloc (Nat.le_refl _) (.cells #[.int .i64 0, .int .i64 2, .int .i64 1] 3)).more (by omega)) r2 (by omega) (by omega))
  clear rd1 r2
  go_wp2_with fail
  refine HE.out.mono ?_
  rintro e w2 ⟨rfl, kq, rfl⟩
  clear HE
  have hb2 : Below w.heap.size w ((w1.alloc (.cells #[.int .i64 0, .int .i64 2, .int .i64 1] 3)).drewN kq) := below_drewN (hb1.alloc z1 _) _
  have z2 := hb2.size
  generalize (w1.alloc (.cells #[.int .i64 0, .int .i64 2, .int .i64 1] 3)).drewN kq = w2 at *
  clear hb1
  go_wp2_with fail
  refine (orders_any w2).mono ?_
  rintro e w3 ⟨rfl, hb3⟩
  have z3 := hb3.size
  have hb03 : Below w.heap.size w w3 := hb2.trans (hb3.mono z2)
  clear hb2 hb3
  go_wp2_with fail
  refine (within_any k0 6 w3 hk0 hk1 (by omega) (by omega)).mono ?_
  rintro e w' ⟨rfl, rfl⟩
  have hm0 : 0 ≤ k0 % 6 := by omega
  have hm1 : k0 % 6 < 6 := by omega
  go_wp2_with fail
  rw [HN.out]
  refine (orderOf_any n a1 n1 c1 x w3 w.heap.size (by omega) (R1.out.below hb03 (Nat.le_refl _)) h1 h6 B1.out).mono ?_
  rintro e w4 ⟨v1, rfl, o1, hb4⟩
  obtain ⟨p1, cp, rfl, hcp, _⟩ := own_slice o1
  have z4 := hb4.size
  have hb04 : Below w.heap.size w w4 := hb03.trans (hb4.mono (by omega))
  have q1 := Rd.of_own o1
  clear o1 hb03 hb4 R1 B1
  have HP := Lib.hid (ordOf_perm n x)
  generalize ordOf n x = P at *
  go_wp2_with fail
  refine (clone_any P p1 n cp w4 w4.heap.size q1 (by omega)).mono ?_
  rintro e w5 ⟨v2, rfl, o2, hb5⟩
  obtain ⟨gb, cb, rfl, hgb, hgb2, hcb, _, _⟩ := own_form o2 h1
  have z5 := hb5.size
  go_wp2_with fail
  refine (reverse_own w4.heap.size gb n cb P w5 o2 (by omega)).mono ?_
  rintro e w6 ⟨rfl, o3, hgr⟩
  have z6 := hgr.size
  have hb6 : Below w4.heap.size w4 w6 := hb5.grown hgr z5 (fun j hj => by injection hj with hj; omega)
  have Q1 := Lib.hid ((q1.below hb6 (Nat.le_refl _)).more (B' := w6.heap.size) (by omega))
  have Q2 := Lib.hid (Rd.of_own o3)
  have hb06 : Below w.heap.size w w6 := hb04.trans (hb6.mono (by omega))
  clear q1 o2 o3 hgr hb5 hb6 hb04
  obtain ⟨kk, hkk⟩ : ∃ kk : Nat, y % (n : Int) = kk := ⟨(y % (n : Int)).toNat, by have := Int.emod_nonneg y (show (n : Int) ≠ 0 by omega); omega⟩
  have hkn : kk < n := by have := Int.emod_lt_of_pos y (show (0 : Int) < n by omega); omega
  have HKK := Lib.hid hkk
  clear hkk
  go_wp2_with fail
  refine (within_any y n w6 hy0 hy1 (by omega) (by omega)).mono ?_
  rintro e w' ⟨rfl, rfl⟩
  rw [HKK.out]
  have hmem : (kk : Int) ∈ P := HP.out.mem_iff.2 (mem_sides.2 ⟨by omega, by omega⟩)
  have lP : P.length = n := by have := HP.out.length_eq; rwa [sides_len] at this
  obtain ⟨i, hi, hPi, _⟩ := pos_mem (HP.out.nodup_iff.2 (sides_nodup n)) hmem
  have HPI := Lib.hid hPi
  have c0 : chk n P = 0 := chk_perm HP.out h1 h6
  have C0 := Lib.hid c0
  have np := HP.out.nodup_iff.2 (sides_nodup n)
  have rp : P.reverse.Perm (sides n) := (List.reverse_perm P).trans HP.out
  have RP := Lib.hid rp
  have HA := Lib.hid (inv_reverse np lP h6)
  have LP := Lib.hid lP
  have NP := Lib.hid np
  rw [lP] at hi
  clear hPi c0 rp hmem lP np
  obtain ⟨T, hT⟩ : ∃ T, n * (n - 1) / 2 = T := ⟨_, rfl⟩
  obtain ⟨hT1, hT2, hT3⟩ := half_go h1 h6 hT
  have HT3 := Lib.hid hT3
  clear hT3
  have HT := Lib.hid hT
  clear hT
  rw [HT.out] at HA
  by_cases hi0 : i = 0
  · subst hi0
    go_wp2_with fail
    refine (raise_first P kk p1 n cp w6 w6.heap.size (Nat.le_refl _) Q1.out C0.out h1 HPI.out).mono ?_
    rintro e w7 ⟨rfl, hb7⟩
    have z7 := hb7.size
    go_wp2_with fail
    refine (place_hit P kk p1 n cp w7 w6.heap.size z7 (Q1.out.below hb7 (Nat.le_refl _)) 0 C0.out h1 HPI.out).mono ?_
    rintro e w8 ⟨rfl, hb8⟩
    have z8 := hb8.size
    have hb68 : Below w6.heap.size w6 w8 := hb7.trans (hb8.mono z7)
    clear hb7 hb8
    go_wp2_with fail
    refine (far_perm HP.out RP.out h1 h6 p1 (some ⟨gb, 0, none⟩) cp cb w8 w6.heap.size (by omega) (Q1.out.below hb68 (Nat.le_refl _)) (Q2.out.below hb68 (Nat.le_refl _)) hcp).mono ?_
    rintro e w9 ⟨rfl, hb9⟩
    have z9 := hb9.size
    have hb09 : Below w.heap.size w w9 := (hb06.trans (hb68.mono (by omega))).trans (hb9.mono (by omega))
    rw [HA.out]
    clear hb68 hb9
    go_wp2_with fail
    refine (good_zero w9.heap.size 0 2 2 _ (by omega) (zeros_at w9 25 2 #[.int .i64 0, .int .i64 0] rfl)).mono ?_
    rintro e w' ⟨rfl, rfl⟩
    go_wp2
    go_ret
    exact ⟨rfl, hb09.alloc (by omega) _⟩
  · obtain ⟨j, rfl⟩ : ∃ j, i = j + 1 := ⟨i - 1, by omega⟩
    have HS := Lib.hid (inv_swp NP.out LP.out h6 hi)
    have HSR := Lib.hid (inv_swp_reverse NP.out LP.out h6 hi)
    rw [HT.out] at HSR
    have sp := Lib.hid ((swp_perm P j (by rw [LP.out]; exact hi)).trans HP.out)
    have sg : (swp P j).getD j 0 = kk := by
      rw [swp_getD _ _ _ (by rw [LP.out]; exact hi)]
      unfold tau
      rw [if_pos rfl]
      exact HPI.out
    have SG := Lib.hid sg
    clear sg
    go_wp2_with fail
    refine (raise_hit P kk p1 n cp w6 w6.heap.size (Nat.le_refl _) Q1.out j C0.out hi HPI.out).mono ?_
    rintro e w7 ⟨gq, cq, rfl, hcq, o7, hb7⟩
    have z7 := hb7.size
    have Q3 := Lib.hid (Rd.of_own o7)
    clear o7
    generalize swp P j = Q at *
    go_wp2_with fail
    refine (place_hit P kk p1 n cp w7 w6.heap.size z7 (Q1.out.below hb7 (Nat.le_refl _)) (j + 1) C0.out hi HPI.out).mono ?_
    rintro e w8 ⟨rfl, hb8⟩
    have z8 := hb8.size
    have hb68 : Below w6.heap.size w6 w8 := hb7.trans (hb8.mono z7)
    go_wp2_with fail
    refine (far_perm HP.out RP.out h1 h6 p1 (some ⟨gb, 0, none⟩) cp cb w8 w6.heap.size (by omega) (Q1.out.below hb68 (Nat.le_refl _)) (Q2.out.below hb68 (Nat.le_refl _)) hcp).mono ?_
    rintro e w9 ⟨rfl, hb9⟩
    have z9 := hb9.size
    have hb69 : Below w6.heap.size w6 w9 := hb68.trans (hb9.mono (by omega))
    have hb79 : Below w7.heap.size w7 w9 := hb8.trans (hb9.mono (by omega))
    rw [HA.out]
    clear hb68 hb9 hb8 hb7
    go_wp2_with fail
    refine (good_zero w9.heap.size 0 2 2 _ (by omega) (zeros_at w9 25 2 #[.int .i64 0, .int .i64 0] rfl)).mono ?_
    rintro e w' ⟨rfl, rfl⟩
    have hb6a : Below w6.heap.size w6 (w9.alloc (.cells #[.int .i64 0, .int .i64 0] 25)) := hb69.alloc (by omega) _
    have hb7a : Below w7.heap.size w7 (w9.alloc (.cells #[.int .i64 0, .int .i64 0] 25)) := hb79.alloc (by omega) _
    generalize w9.alloc (.cells #[.int .i64 0, .int .i64 0] 25) = wa at *
    have za := hb7a.size
    clear hb69 hb79
    have cQ := Lib.hid (chk_perm sp.out h1 h6)
    go_wp2_with fail
    refine (place_hit Q kk (some ⟨gq, 0, none⟩) n cq wa w7.heap.size za (Q3.out.below hb7a (Nat.le_refl _)) j cQ.out (by omega) SG.out).mono ?_
    rintro e wb ⟨rfl, hbb⟩
    have zb := hbb.size
    have hb6b : Below w6.heap.size w6 wb := hb6a.trans (hbb.mono (by omega))
    have hb7b : Below w7.heap.size w7 wb := hb7a.trans (hbb.mono (by omega))
    clear hb6a hb7a hbb
    go_wp2_with fail
    refine (far_perm HP.out sp.out h1 h6 p1 (some ⟨gq, 0, none⟩) cp cq wb w7.heap.size (by omega) ((Q1.out.below hb6b (Nat.le_refl _)).more z7) (Q3.out.below hb7b (Nat.le_refl _)) hcp).mono ?_
    rintro e wc ⟨rfl, hbc⟩
    have zc := hbc.size
    have hb6c : Below w6.heap.size w6 wc := hb6b.trans (hbc.mono (by omega))
    have hb7c : Below w7.heap.size w7 wc := hb7b.trans (hbc.mono (by omega))
    clear hb6b hb7b hbc
    rw [HS.out]
    go_wp2_with fail
    refine (far_perm sp.out RP.out h1 h6 (some ⟨gq, 0, none⟩) (some ⟨gb, 0, none⟩) cq cb wc w7.heap.size (by omega) (Q3.out.below hb7c (Nat.le_refl _)) ((Q2.out.below hb6c (Nat.le_refl _)).more z7) hcq).mono ?_
    rintro e wd ⟨rfl, hbd⟩
    have zd := hbd.size
    have hb0d : Below w.heap.size w wd := (hb06.trans (hb6c.mono (by omega))).trans (hbd.mono (by omega))
    rw [HSR.out]
    clear hb6c hb7c hbd
    go_wp2_with fail
    refine (good_zero wd.heap.size 0 3 3 _ (by omega) (zeros_at wd 25 3 #[.int .i64 0, .int .i64 0, .int .i64 0] rfl)).mono ?_
    rintro e w' ⟨rfl, rfl⟩
    have hT4 := HT3.out (by omega)
    go_wp2
    go_ret
    exact ⟨ret_true (beq_iff_eq.2 (by omega)), hb0d.alloc (by omega) _⟩
end Go.Proofs.Ytdbejalcedpdjaa

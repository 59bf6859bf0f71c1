/-
  plumekeep.OrderAll returns true, for every int and every slice of ints; nothing that was there is written.
-/
import Derived.Test.YtdbejalcedpdjaaLawFar
import Derived.Test.YtdbejalcedpdjaaAll
import Derived.Test.YtdbejalcedpdjaaCompare
namespace Go.Proofs.Ytdbejalcedpdjaa
open Go.RowKit Fm
set_option linter.unusedVariables false

theorem mem_snoc_dec (P : List Int) (T : List (List Int)) (q : List Int) : decide (P ∈ T ++ [q]) = (decide (P ∈ T) || decide (P = q)) := by
  rw [Bool.eq_iff_iff]; simp

theorem fact_mono {k n : Nat} (h : k ≤ n) : fact k ≤ fact n := by
  induction n with
  | zero => obtain rfl : k = 0 := by omega
            exact Nat.le_refl _
  | succ n ih =>
    by_cases hk : k = n + 1
    · subst hk; exact Nat.le_refl _
    · have h2 := ih (by omega)
      have h3 : fact n * 1 ≤ fact n * (n + 1) := Nat.mul_le_mul_left _ (by omega)
      simp only [fact]
      omega

set_option maxHeartbeats 2000000 in
theorem orderAll_any (k0 : Int) (hk0 : -9223372036854775808 ≤ k0) (hk1 : k0 ≤ 9223372036854775807) (a1 : Option Addr) (n1 c1 : Nat) (x : List Int) (w : World)
    (r1 : Rd w w.heap.size a1 n1 x) (b1 : ∀ u ∈ x, -9223372036854775808 ≤ u ∧ u ≤ 9223372036854775807) :
    Calls Try.prog 7 #[.int .i64 k0, .slice a1 n1 c1] w fun e w' => e = .returned (.bool true) ∧ Below w.heap.size w w' := by
  have R1 := Lib.hid r1
  have B1 := Lib.hid b1
  clear r1 b1
  obtain ⟨n, hn⟩ : ∃ n : Nat, 1 + k0 % 6 = n := ⟨(1 + k0 % 6).toNat, by omega⟩
  have h1 : 1 ≤ n := by omega
  have h6 : n ≤ 6 := by omega
  have HN := Lib.hid hn
  clear hn
  go_enter Try.func7, Try.ntmps7
  go_wp2_with fail
  refine (orders_any w).mono ?_
  rintro e w1 ⟨rfl, hb1⟩
  have z1 := hb1.size
  go_wp2_with fail
  refine (within_any k0 6 w1 hk0 hk1 (by omega) (by omega)).mono ?_
  rintro e w' ⟨rfl, rfl⟩
  have hm0 : 0 ≤ k0 % 6 := by omega
  have hm1 : k0 % 6 < 6 := by omega
  go_wp2_with fail
  rw [HN.out]
  refine (all_any n w1 h1 h6).mono ?_
  rintro e w2 ⟨v, vs, rfl, ov, oe, hb2⟩
  have hlen := allO_len h1 h6
  rw [hlen] at ov
  have hF : 1 ≤ fact n := by have := fact_mono (Nat.zero_le n); simpa [fact] using this
  have hF2 : fact n ≤ 720 := fact_le h6
  obtain ⟨g, cap, rfl, hg1, hg2⟩ : ∃ g cap, v = .slice (some ⟨g, 0, none⟩) (fact n) cap ∧ w1.heap.size ≤ g ∧ g < w2.heap.size := ov.form (by omega)
  have z2 := hb2.size
  have hb02 : Below w.heap.size w w2 := hb1.trans (hb2.mono z1)
  have HLEN := Lib.hid hlen
  have OV := Lib.hid ov
  have OE := Lib.hid oe
  clear hlen ov oe hb1 hb2
  go_wp2_with fail
  refine (orderOf_any n a1 n1 c1 x w2 w.heap.size (by omega) (R1.out.below hb02 (Nat.le_refl _)) h1 h6 B1.out).mono ?_
  rintro e w3 ⟨v3, rfl, o3, hb3⟩
  obtain ⟨p1, cp, rfl, hcp, _⟩ := own_slice o3
  have z3 := hb3.size
  have hb03 : Below w.heap.size w w3 := hb02.trans (hb3.mono (by omega))
  have Q1 := Lib.hid (Rd.of_own o3)
  have OV3 := Lib.hid (own_below OV.out hb3 (Nat.le_refl _))
  have OE3 := Lib.hid (OE.out.below hb3 (Nat.le_refl _))
  have HP := Lib.hid (ordOf_perm n x)
  clear o3 hb02 hb3 OV OE R1 B1
  generalize ordOf n x = P at *
  go_wp2_with fail
  go_loop [8, 9] (fun s8 s9 => ∃ k : Nat, 1 ≤ k ∧ k ≤ n ∧ s9 = .int .i64 ((k : Int) + 1) ∧ s8 = .int .i64 (fact k)) (fun _ s9 => n + 1 - (intOf s9).toNat)
  case atStart => exact ⟨1, by omega, h1, rfl, rfl⟩
  case round =>
    obtain ⟨k, hk1', hkn, rfl, rfl⟩ := hrel
    by_cases hlt : k < n
    · have hfk : fact (k + 1) = fact k * (k + 1) := rfl
      have hfb : fact (k + 1) ≤ 720 := fact_le (by omega)
      have hw : wrap64 ((fact k : Int) * ((k : Int) + 1)) = (fact (k + 1) : Int) := by
        have : (fact k : Int) * ((k : Int) + 1) = ((fact (k + 1) : Nat) : Int) := by rw [hfk]; simp
        rw [this]
        have h0 : ((fact (k + 1) : Nat) : Int) ≤ 720 := by omega
        have h00 : (0 : Int) ≤ ((fact (k + 1) : Nat) : Int) := by omega
        generalize ((fact (k + 1) : Nat) : Int) = z at *
        unfold wrap64
        omega
      have HW := Lib.hid hw
      clear hfk hw
      go_wp2
      go_round
      case rel => exact ⟨k + 1, by omega, by omega, by go_num, by rw [HW.out]⟩
      case measure => simp [intOf]; omega
    · obtain rfl : k = n := by omega
      have hne : ((fact k : Int) != (fact k : Int)) = false := by simp
      generalize hFk : fact k = F at *
      have HFk := Lib.hid hFk
      clear hFk
      have HM : Hid (∀ q, q ∈ allO k ↔ q.Perm (sides k)) := fun q => mem_allO
      have HRI : Hid (∀ j, j + 1 < (allO k).length → cmpL ((allO k).getD j []) ((allO k).getD (j + 1) []) = -1) := fun j hj => allO_rising h1 h6 hj
      have hPL : P ∈ allO k := mem_allO.2 HP.out
      have HPL := Lib.hid hPL
      clear hPL
      generalize allO k = L at *
      have HIN : Hid (∀ j, j < F → (L.getD j []).Perm (sides k)) := fun j hj => by
        refine (HM.out _).1 ?_
        have hj' : j < L.length := by rw [HLEN.out]; exact hj
        rw [List.getD_eq_getElem?_getD, List.getElem?_eq_getElem hj']; exact List.getElem_mem hj'
      go_wp2_with fail
      go_loopw [10, 44] (fun s10 s44 wr => ∃ j : Nat, j ≤ F ∧ s44 = .int .i64 j ∧ s10 = .bool (decide (P ∈ L.take j)) ∧ Below w3.heap.size w3 wr) (fun _ s44 _ => F - (intOf s44).toNat)
      case atStart => exact ⟨0, Nat.zero_le _, rfl, by simp, Below.refl _ _⟩
      case round =>
        obtain ⟨j, hjF, rfl, rfl, hbw⟩ := hrel
        have zw := hbw.size
        by_cases hlt2 : j < F
        · have hjL : j < L.length := by rw [HLEN.out]; exact hlt2
          obtain ⟨u, hu, ou⟩ := OE3.out.at_ hjL
          have ou' := own_below ou hbw (Nat.le_refl _)
          have hperm := HIN.out j hlt2
          have hlq : (L.getD j []).length = k := by have := hperm.length_eq; rwa [sides_len] at this
          rw [hlq] at ou ou'
          obtain ⟨aq, cq, rfl, hcq, _⟩ := own_slice ou
          have hcell : wr.cell? ⟨g, j, none⟩ = some (.slice aq k cq) := by
            rw [hbw.cell (by show g < _; omega), OV3.out.cellAt j (by omega)]; exact hu
          have rq := (Rd.of_own ou).below hbw (Nat.le_refl _)
          have hck := chk_perm hperm h1 h6
          have hsn : L.take (j + 1) = L.take j ++ [L.getD j []] := by
            rw [List.take_succ_eq_append_getElem hjL, List.getD_eq_getElem?_getD, List.getElem?_eq_getElem hjL]; rfl
          have HSN : Hid (decide (P ∈ L.take (j + 1)) = (decide (P ∈ L.take j) || decide (P = L.getD j []))) := by
            rw [hsn]; exact mem_snoc_dec P _ _
          have RQ := Lib.hid rq
          have CK := Lib.hid hck
          clear ou ou' hu hsn hck rq hperm hlq
          cases j with
          | zero =>
            have hc0 : wr.cell? ⟨g, 0, none⟩ = some (.slice aq k cq) := hcell
            have hnf : decide (P ∈ L.take 0) = false := by simp
            rw [hnf] at HSN ⊢
            clear hnf
            go_wp2_with fail
            refine (check_any k aq k cq (L.getD 0 []) wr w3.heap.size zw RQ.out).mono ?_
            rintro e w4 ⟨rfl, hb4⟩
            rw [CK.out]
            have z4 := hb4.size
            have hb34 := hbw.trans (hb4.mono zw)
            go_wp2_with fail
            refine (equal_any P (L.getD 0 []) p1 aq k cp k cq w4 w3.heap.size (Q1.out.below hb34 (Nat.le_refl _)) ((RQ.out.below hb4 zw)) (by omega) (by omega)).mono ?_
            rintro e w5 ⟨rfl, q, rfl⟩
            have hb35 := below_drewN hb34 q
            generalize decide (P = L.getD 0 []) = bb at *
            clear hb4 hb34 hbw hcell hc0
            go_wp2
            go_roundw
            case rel => exact ⟨1, by omega, by go_num, by rw [HSN.out]; rfl, hb35⟩
            case measure => simp [intOf]; omega
          | succ t =>
            have htL : t < L.length := by omega
            obtain ⟨u2, hu2, ou2⟩ := OE3.out.at_ htL
            have hperm2 := HIN.out t (by omega)
            have hlq2 : (L.getD t []).length = k := by have := hperm2.length_eq; rwa [sides_len] at this
            rw [hlq2] at ou2
            obtain ⟨ar, cr, rfl, hcr, _⟩ := own_slice ou2
            have hrd2 := Lib.hid ((Rd.of_own ou2).below hbw (Nat.le_refl _))
            have hct : ∀ W, Below wr.heap.size wr W → W.cell? ⟨g, t, none⟩ = some (.slice ar k cr) := fun W hW => by
              rw [hW.cell (by show g < _; omega), hbw.cell (by show g < _; omega), OV3.out.cellAt t (by omega)]; exact hu2
            have HCT := Lib.hid hct
            have hcmp := Lib.hid (HRI.out t (by omega))
            clear hct ou2 hu2 hperm2 hlq2
            go_wp2_with fail
            refine (check_any k aq k cq (L.getD (t + 1) []) wr w3.heap.size zw RQ.out).mono ?_
            rintro e w4 ⟨rfl, hb4⟩
            rw [CK.out]
            have z4 := hb4.size
            have hb34 := hbw.trans (hb4.mono zw)
            have hc4 := HCT.out w4 hb4
            go_wp2_with fail
            refine (compare_any (L.getD t []) (L.getD (t + 1) []) ar aq k cr k cq w4 w3.heap.size (hrd2.out.below hb4 zw) (RQ.out.below hb4 zw) (by omega) (by omega) (-1) hcmp.out).mono ?_
            rintro e w5 ⟨rfl, rfl⟩
            by_cases hfd : P ∈ L.take (t + 1)
            · have hf1 : decide (P ∈ L.take (t + 1)) = true := by simpa using hfd
              rw [hf1] at HSN ⊢
              clear hf1 hfd hb4 hbw hcell
              go_wp2
              go_roundw
              case rel => exact ⟨t + 1 + 1, by omega, by go_num, by rw [HSN.out]; rfl, hb34⟩
              case measure => simp [intOf]; omega
            · have hf1 : decide (P ∈ L.take (t + 1)) = false := by simpa using hfd
              rw [hf1] at HSN ⊢
              clear hf1 hfd
              go_wp2_with fail
              refine (equal_any P (L.getD (t + 1) []) p1 aq k cp k cq w4 w3.heap.size (Q1.out.below hb34 (Nat.le_refl _)) (RQ.out.below hb4 zw) (by omega) (by omega)).mono ?_
              rintro e w5 ⟨rfl, q, rfl⟩
              have hb35 := below_drewN hb34 q
              generalize decide (P = L.getD (t + 1) []) = bb at *
              clear hb4 hb34 hbw hcell
              go_wp2
              go_roundw
              case rel => exact ⟨t + 1 + 1, by omega, by go_num, by rw [HSN.out]; rfl, hb35⟩
              case measure => simp [intOf]; omega
        · obtain rfl : j = F := by omega
          have hall : decide (P ∈ L.take j) = true := by
            rw [List.take_of_length_le (by rw [HLEN.out]; exact Nat.le_refl _)]; simpa using HPL.out
          rw [hall]
          clear hall
          have hfin : Below w.heap.size w wr := hb03.trans (hbw.mono (by omega))
          go_wp2
          go_ret
          exact ⟨rfl, hfin⟩
end Go.Proofs.Ytdbejalcedpdjaa

/-
  plumekeep.SeatsMore returns true, for every three ints and slice of ints, if seats.Share keeps its contract; nothing that was there is written.
-/
import Derived.Test.YtedllchlhdjanaaSeatUse
import Derived.Test.YtedllchlhdjanaaCPeopleOf
import Derived.BigQuiet
import Derived.Deep.QuietTactic
namespace Go.Proofs.Ytedllchlhdjanaa
open Go.RowKit Fm
set_option linter.unusedVariables false

def moreL (c : Nat) (P : List Int) : List Int := P.map fun x => x * (c : Int)
theorem more_len (c : Nat) (P : List Int) : (moreL c P).length = P.length := by simp [moreL]
theorem more_at {c : Nat} {P : List Int} {k : Nat} (hk : k < P.length) : (moreL c P).getD k 0 = P.getD k 0 * c := by
  unfold moreL
  rw [getD_get (by rw [List.length_map]; exact hk), getD_get hk]
  simp
theorem more_xs {c : Nat} {P : List Int} (hb : ∀ x ∈ P, 0 ≤ x) : xs (moreL c P) = fun i => c * xs P i := by
  funext i
  unfold xs moreL
  by_cases hi : i < P.length
  · rw [getD_get (by rw [List.length_map]; exact hi), List.getElem_map, getD_get hi]
    have := hb _ (List.getElem_mem hi)
    obtain ⟨k, hk⟩ : ∃ k : Nat, P[i] = k := ⟨(P[i]).toNat, by omega⟩
    rw [hk, ← Int.natCast_mul, Int.toNat_natCast, Int.toNat_natCast, Nat.mul_comm]
  · rw [List.getD_eq_getElem?_getD, List.getElem?_eq_none (by rw [List.length_map]; omega), List.getD_eq_getElem?_getD, List.getElem?_eq_none (by omega)]
    simp
theorem more_ppl {c : Nat} (h1 : 1 ≤ c) (h9 : c ≤ 900) {P : List Int} (p : Ppl P) (hb : ∀ x ∈ P, 0 ≤ x ∧ x ≤ 999) : Ppl (moreL c P) := by
  refine ⟨by rw [more_len]; exact p.pos, by rw [more_len]; exact p.le, fun x hx => ?_, ?_⟩
  · unfold moreL at hx
    rw [List.mem_map] at hx
    obtain ⟨y, hy, rfl⟩ := hx
    have := hb y hy
    obtain ⟨k, rfl⟩ : ∃ k : Nat, y = k := ⟨y.toNat, by omega⟩
    have hk : k ≤ 999 := by omega
    rw [← Int.natCast_mul]
    have := Nat.mul_le_mul hk h9
    omega
  · rw [more_len, more_xs (fun x hx => (hb x hx).1), sN_mul]
    exact Nat.mul_pos (by omega) p.some_
theorem more_same {c : Nat} (h1 : 1 ≤ c) {P : List Int} (hb : ∀ x ∈ P, 0 ≤ x) (way : Int) (h : Nat) : sharesL way (moreL c P) h = sharesL way P h :=
  shares_ext (more_len c P) (fun i hi => by
    unfold shareN
    rw [more_len, more_xs hb, partS_scale (by omega), seatT_scale (by omega)])
theorem share_mono {P : List Int} (p : Ppl P) (way : Int) (h : Nat) {k i : Nat} (hki : k < i) (hi : i < P.length) (hx : xs P i ≤ xs P k) : shareN way P h i ≤ shareN way P h k := by
  unfold shareN
  split
  · exact partS_mono p.pos p.some_ hki hi hx
  · exact seatT_mono p.pos h k i hki hi hx

set_option maxHeartbeats 4000000 in
set_option maxRecDepth 100000 in
theorem seatsMore_is (sS : SShare) (w0 : Int) (hw0 : -9223372036854775808 ≤ w0) (hw1 : w0 ≤ 9223372036854775807) (v1 : Value) (l : List Int) {w : World} (f1 : IsInts w v1 l) (n0 : Int) (hn0 : -9223372036854775808 ≤ n0) (hn1 : n0 ≤ 9223372036854775807)
    (y0 : Int) (hy0 : -9223372036854775808 ≤ y0) (hy1 : y0 ≤ 9223372036854775807) :
    Calls Try.prog 7 #[.int .i64 w0, v1, .int .i64 n0, .int .i64 y0] w fun e w' => e = .returned (.bool true) ∧ Below w.heap.size w w' := by
  obtain ⟨a, c, rfl, hr, hox, hlc, _, hcm, _⟩ := f1
  have HR := Lib.hid hr
  have HO := Lib.hid hox
  have W0 : Hid (∀ W, Calls Try.prog 14 #[] W fun e w' => e = .returned (.bool true) ∧ Below W.heap.size W w') := fun W => shares_any sS W
  have SS : Hid SShare := sS
  clear sS hr hox
  obtain ⟨d9, hd9⟩ : ∃ d : Int, y0 % 900 = d := ⟨_, rfl⟩
  have QW : Hid (∀ W, Calls Try.prog 15 #[.int .i64 y0, .int .i64 900] W fun e w' => e = .returned (.int .i64 d9) ∧ W = w') := fun W => by
    have q := within_any y0 900 W hy0 hy1 (by omega) (by omega)
    rw [hd9] at q
    exact q
  obtain ⟨M, hM⟩ : ∃ M : Nat, 1 + d9 = (M : Int) := ⟨(1 + d9).toNat, by omega⟩
  have hM1 : 1 ≤ M := by omega
  have hM9 : M ≤ 900 := by omega
  have HM := Lib.hid hM
  have hd90 : 0 ≤ d9 ∧ d9 ≤ 899 := by omega
  clear hd9 hy0 hy1 hM
  go_enter Try.func7, Try.ntmps7
  go_wp2_with fail
  refine (W0.out w).mono ?_
  rintro e w1 ⟨rfl, hb1⟩
  clear W0
  go_wp2_with fail
  refine (within_any w0 3 w1 hw0 hw1 (by omega) (by omega)).mono ?_
  rintro e w1' ⟨rfl, rfl⟩
  obtain ⟨d, hd⟩ : ∃ d : Int, w0 % 3 = d := ⟨_, rfl⟩
  have hd0 : 0 ≤ d ∧ d ≤ 2 := by omega
  rw [hd]
  clear hd hw0 hw1
  go_wp2_with fail
  refine (within_any n0 101 w1 hn0 hn1 (by omega) (by omega)).mono ?_
  rintro e w1' ⟨rfl, rfl⟩
  obtain ⟨h, hh⟩ : ∃ h : Nat, n0 % 101 = (h : Int) := ⟨(n0 % 101).toNat, by omega⟩
  have hh9 : h ≤ 100 := by omega
  rw [hh]
  clear hh hn0 hn1
  obtain ⟨way, hway⟩ : ∃ way : Int, 1 + d = way := ⟨_, rfl⟩
  have hw1 : 1 ≤ way := by omega
  have hw3 : way ≤ 3 := by omega
  go_wp2_with fail
  refine (peopleOf_any a l.length c l w1 (rd_ext HR.out hb1) hlc hcm HO.out).mono ?_
  rintro e w2 ⟨v2, rfl, o2, hb2⟩
  obtain ⟨ap, cp, rfl, hpc, _⟩ := own_slice o2
  have HP := Lib.hid (peopleOf_ppl l)
  have HPB : Hid (∀ x ∈ peopleOf l, 0 ≤ x ∧ x ≤ 999) := peopleK_bd l 7
  have RP := Lib.hid (Rd.of_own o2)
  have hb02 := ext_trans hb1 hb2
  generalize peopleOf l = P at *
  have hp1 := HP.out.pos
  have hp8 := HP.out.le
  clear o2 hb1 hb2 HR HO
  obtain ⟨n, hn⟩ : ∃ n, P.length = n := ⟨_, rfl⟩
  have HN := Lib.hid hn
  rw [hn] at hp1 hp8 hpc RP ⊢
  have QS := Lib.hid (share_use SS.out HP.out HN.out hw1 hw3 hh9 ap cp hpc w2 RP.out)
  have HMS := Lib.hid (more_same hM1 (fun x hx => (HPB.out x hx).1) way h)
  have HMP := Lib.hid (more_ppl hM1 hM9 HP.out HPB.out)
  have HML : Hid ((moreL M P).length = n) := by show _ = _; rw [more_len, hn]
  have QS2 : Hid (∀ a c W, n ≤ c → Rd W W.heap.size a n (moreL M P) → Calls Try.prog 9 #[.int .i64 way, .slice a n c, .int .i64 h] W (ShOut n (sharesL way P h) W)) := fun a c W hc hr => by
    have q := share_use SS.out HMP.out HML.out hw1 hw3 hh9 a c hc W hr
    rw [HMS.out] at q
    exact q
  have HX : Hid (∀ i, i < n → ∃ x : Nat, P.getD i 0 = x ∧ x = xs P i ∧ x ≤ 999) := fun i hi => by
    have hi' : i < P.length := by rw [hn]; exact hi
    obtain ⟨q1, q2⟩ := HP.out.at_ hi'
    have := HPB.out _ (getD_mem P i hi')
    exact ⟨xs P i, q1, rfl, by omega⟩
  have HAT : Hid (∀ i, i < n → (sharesL way P h).getD i 0 = shareN way P h i ∧ shareN way P h i ≤ 100) := fun i hi => ⟨shares_at _ P h (by rw [hn]; exact hi), Nat.le_trans (share_le HP.out _ h (by rw [hn]; exact hi)) hh9⟩
  have HMONO : Hid (∀ k i, k < i → i < n → xs P i ≤ xs P k → shareN way P h i ≤ shareN way P h k) := fun k i hki hi hx => share_mono HP.out way h hki (by rw [hn]; exact hi) hx
  clear hn SS HMS HMP HML HPB
  go_wp2_with fail
  clear hway
  refine QS.out.mono ?_
  rintro e w3 ⟨a3, c3, rfl, r3, hb3⟩
  have r23 := rd_ext RP.out hb3
  have HB3 := Lib.hid (ext_trans hb02 hb3)
  clear QS hb02 hb3 RP
  obtain ⟨b5, o5, rfl, hb5, hc5⟩ := r23.2 (by omega)
  have C5 := Lib.hid hc5
  have R3 := Lib.hid r3
  clear hc5 r3 r23
  go_wp2_with fail
  go_loopw [12, 38] (fun sv iv wr => ∃ k : Nat, k ≤ n ∧ iv = .int .i64 k ∧ wr.ownsRow w3.heap.size 3 1 sv k (I ((moreL M P).take k)) ∧ Below w3.heap.size w3 wr) (fun _ iv _ => n - (intOf iv).toNat)
  case atStart => exact ⟨0, Nat.zero_le _, rfl, World.ownsRow_nil _ _ _ _, Below.refl _ _⟩
  case round =>
    obtain ⟨k, hk, rfl, own, hbel⟩ := hrel
    have hz := hbel.size
    by_cases hkn : k < n
    · obtain ⟨x, ex, ex2, hx⟩ := HX.out k hkn
      clear ex2
      have rx : wr.cell? ⟨b5, o5 + k, none⟩ = some (.int .i64 x) := by rw [hbel.cell (by exact hb5), ← ex]; exact C5.out k hkn
      obtain ⟨X, hX⟩ : ∃ X : Nat, x * M = X := ⟨_, rfl⟩
      have lX : X ≤ 899100 := by rw [← hX]; exact Nat.mul_le_mul hx hM9
      have m1 : (x : Int) * (M : Int) = (X : Int) := by rw [← hX, Int.natCast_mul]
      have HS : Hid ((moreL M P).take (k + 1) = (moreL M P).take k ++ [(X : Int)]) := by
        show _ = _
        have hkl : k < (moreL M P).length := by rw [more_len, HN.out]; exact hkn
        rw [take_succ_getD _ k hkl]
        rw [more_at (by rw [HN.out]; exact hkn), ex, m1]
      have hm1 := HM.out
      have m2 : (x : Int) * (1 + d9) = (X : Int) := by rw [hm1]; exact m1
      clear ex hX
      generalize (moreL M P).take k = q at *
      go_wp2_with fail
      refine (QW.out wr).mono ?_
      rintro e w' ⟨rfl, rfl⟩
      go_wp2_with (at_builtin; refine push1 rfl _ _ rfl wr w3.heap.size _ k q (X : Int) rfl rfl (by exact own) hz (by omega) ?_)
      intro g4 cap4 w4 own4 gr4 _ _
      have hb4 := hbel.grown gr4 hz (own_not own)
      clear gr4 own hbel rx hm1 m1 m2
      go_wp2
      go_roundw
      case rel => exact ⟨k + 1, by omega, by go_num, by rw [HS.out]; exact own4, hb4⟩
      case measure => simp [intOf]; omega
    · obtain rfl : k = n := by omega
      rw [List.take_of_length_le (by rw [more_len, HN.out]; exact Nat.le_refl _)] at own
      obtain ⟨g6, c6, rfl, _, _, hc6, _, _⟩ := own_form own (by omega)
      have QS3 := Lib.hid (QS2.out (some ⟨g6, 0, none⟩) c6 wr hc6 (Rd.of_own own))
      have R36 := Lib.hid (rd_ext R3.out hbel)
      have C56 : Hid (∀ j, j < k → wr.cell? ⟨b5, o5 + j, none⟩ = some (.int .i64 (P.getD j 0))) := fun j hj => by rw [hbel.cell (by exact hb5)]; exact C5.out j hj
      have hb5' : b5 < wr.heap.size := Nat.lt_of_lt_of_le hb5 hz
      have HB6 := Lib.hid (ext_trans HB3.out hbel)
      clear own hbel QS2 QW HM R3 C5 HB3
      go_wp2_with fail
      refine QS3.out.mono ?_
      rintro e w7 ⟨a7, c7, rfl, r7, hb7⟩
      have r37 := rd_ext R36.out hb7
      have C57 : Hid (∀ j, j < k → w7.cell? ⟨b5, o5 + j, none⟩ = some (.int .i64 (P.getD j 0))) := fun j hj => by rw [hb7.cell (by exact hb5')]; exact C56.out j hj
      have hb07 := ext_trans HB6.out hb7
      have hb57 : b5 < w7.heap.size := Nat.lt_of_lt_of_le hb5' hb7.size
      clear QS3 R36 C56 HB6 hb7 hb5'
      go_wp2_with fail
      refine (good_zero w7.heap.size 0 2 2 _ (by omega) (zeros_at w7 23 2 #[.int .i64 0, .int .i64 0] rfl)).mono ?_
      rintro e w8 ⟨rfl, rfl⟩
      have b8 : Below w7.heap.size w7 (w7.alloc (.cells #[.int .i64 0, .int .i64 0] 23)) := (Below.refl _ _).alloc (Nat.le_refl _) _
      have hb08 := ext_trans hb07 b8
      have r38 := rd_ext r37 b8
      have r78 := rd_ext r7 b8
      have C58 : Hid (∀ j, j < k → (w7.alloc (.cells #[.int .i64 0, .int .i64 0] 23)).cell? ⟨b5, o5 + j, none⟩ = some (.int .i64 (P.getD j 0))) := fun j hj => by rw [b8.cell (by exact hb57)]; exact C57.out j hj
      have hb58 : b5 < (w7.alloc (.cells #[.int .i64 0, .int .i64 0] 23)).heap.size := Nat.lt_of_lt_of_le hb57 b8.size
      clear b8 hb07 r37 r7 C57 hb57
      generalize w7.alloc (.cells #[.int .i64 0, .int .i64 0] 23) = w8 at *
      have QE := Lib.hid (equal_any (sharesL way P h) (sharesL way P h) a3 a7 k c3 k c7 w8 w8.heap.size r38 r78 (by omega) (by omega))
      rw [show decide (sharesL way P h = sharesL way P h) = true from decide_eq_true rfl] at QE
      obtain ⟨b3, o3, rfl, _, hc3⟩ := r38.2 (by omega)
      have C3 := Lib.hid hc3
      have HB8 := Lib.hid hb08
      clear hc3 r38 r78 hb08
      have hne3 : ((k : Int) != (k : Int)) = false := by simp
      go_wp2_with fail
      refine QE.out.mono ?_
      rintro e w9 ⟨rfl, q9, rfl⟩
      clear QE
      go_wp2_with fail
      go_loopw [78] (fun iv wr => ∃ i : Nat, i ≤ k ∧ iv = .int .i64 i ∧ ∃ q, wr = w8.drewN q) (fun iv _ => k - (intOf iv).toNat)
      case atStart => exact ⟨0, Nat.zero_le _, rfl, q9, rfl⟩
      case round =>
        obtain ⟨i, hi, rfl, qi, hwi⟩ := hrel
        have HWI := Lib.hid hwi
        by_cases hin : i < k
        · obtain ⟨x, ex, ex2, hx⟩ := HX.out i hin
          have rx : wr.cell? ⟨b5, o5 + i, none⟩ = some (.int .i64 x) := by rw [hwi, ← ex]; exact C58.out i hin
          have HXX := Lib.hid ex2
          clear hwi ex ex2
          obtain ⟨wo, rfl⟩ : ∃ wo, wo = wr := ⟨_, rfl⟩
          go_wp2_with fail
          clear rx
          go_loopw [84] (fun jv wr => ∃ j : Nat, j ≤ i ∧ jv = .int .i64 j ∧ ∃ q, wr = w8.drewN q) (fun jv _ => i - (intOf jv).toNat)
          case atStart => exact ⟨0, Nat.zero_le _, rfl, qi, HWI.out⟩
          case round =>
            obtain ⟨j, hj, rfl, qj, hwj⟩ := hrel
            have HWJ := Lib.hid hwj
            clear HWI
            by_cases hji : j < i
            · have hjk : j < k := by omega
              obtain ⟨y, ey, ey2, hy⟩ := HX.out j hjk
              obtain ⟨f1, g1⟩ := HAT.out i hin
              obtain ⟨f2, g2⟩ := HAT.out j hjk
              have hmn := HMONO.out j i hji hin
              rw [← HXX.out, ← ey2] at hmn
              have ry : wr.cell? ⟨b5, o5 + j, none⟩ = some (.int .i64 y) := by rw [hwj, ← ey]; exact C58.out j hjk
              have r1 : wr.cell? ⟨b3, o3 + i, none⟩ = some (.int .i64 (shareN way P h i)) := by rw [hwj, ← f1]; exact C3.out i hin
              have r2 : wr.cell? ⟨b3, o3 + j, none⟩ = some (.int .i64 (shareN way P h j)) := by rw [hwj, ← f2]; exact C3.out j hjk
              clear hwj ey ey2 f1 f2
              generalize shareN way P h i = si at *
              generalize shareN way P h j = sj at *
              by_cases hxy : x ≤ y
              · have hmn := hmn hxy
                have q0 : decide (x ≤ y) = true := decide_eq_true hxy
                have q1 : decide ((sj : Int) < (si : Int)) = false := decide_eq_false (by omega)
                have q1' : decide (sj < si) = false := decide_eq_false (by omega)
                clear hmn
                go_wp2_with fail
                go_quiet (fail)
                go_wp2
                go_roundw
                case rel => exact ⟨j + 1, by omega, by go_num, qj + nq, by rw [HWJ.out, World.drewN_drewN]⟩
                case measure => simp [intOf]; omega
              · have q0 : decide (x ≤ y) = false := decide_eq_false hxy
                have q0' : decide ((x : Int) ≤ (y : Int)) = false := decide_eq_false (by omega)
                clear hmn
                go_wp2_with fail
                go_quiet (fail)
                go_wp2
                go_roundw
                case rel => exact ⟨j + 1, by omega, by go_num, qj + nq, by rw [HWJ.out, World.drewN_drewN]⟩
                case measure => simp [intOf]; omega
            · obtain rfl : j = i := by omega
              clear hwj
              go_wp2
              go_roundw
              case rel => exact ⟨j + 1, by omega, by go_num, qj, HWJ.out⟩
              case measure => simp [intOf]; omega
        · obtain rfl : i = k := by omega
          clear hwi
          go_wp2
          go_ret
          exact ⟨rfl, by rw [HWI.out]; exact below_drewN HB8.out _⟩
end Go.Proofs.Ytedllchlhdjanaa

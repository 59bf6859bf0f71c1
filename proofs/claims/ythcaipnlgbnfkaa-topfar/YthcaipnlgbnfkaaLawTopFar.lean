/-
  plumetop.TopFar returns true, for every int, every slice of slices of ints and every slice of ints, if middle.Far, tally.Duels and worth.Share keep their contracts; nothing that was there is written.
-/
import Derived.Test.YthcaipnlgbnfkaaMidP
import Derived.Test.YthcaipnlgbnfkaaPureA
import Derived.Test.YthcaipnlgbnfkaaBestMath
import Derived.Test.YthcaipnlgbnfkaaPureB
import Derived.Test.YthcaipnlgbnfkaaArrMath
import Derived.Test.YthcaipnlgbnfkaaWorthMath
import Derived.Test.YthcaipnlgbnfkaaCVotesOf
import Derived.Test.YthcaipnlgbnfkaaCOrderOf
import Derived.Test.YthcaipnlgbnfkaaCWithin
import Derived.Test.YthcaipnlgbnfkaaCTopG
import Derived.BigQuiet
import Derived.Deep.QuietTactic
namespace Go.Proofs.Ythcaipnlgbnfkaa
open Go.RowKit Fm
set_option linter.unusedVariables false

theorem tabIn_smallF {w : World} {a : Option Addr} {n : Nat} {M : List (List Int)} (h : RdR w w.heap.size a n M) (hn : n ≤ 1000) (hl : ∀ l ∈ M, l.length ≤ 1000) : TabIn w a n M :=
  ⟨w.heap.size, Nat.le_refl _, h, by omega, fun l hl' => by have := hl l hl'; omega⟩
theorem perm_lenF {n : Nat} {V : List (List Int)} (hp : ∀ p ∈ V, p.Perm (sides n)) (h6 : n ≤ 6) : ∀ p ∈ V, p.length ≤ 1000 := fun p hpm => by
  have := (hp p hpm).length_eq
  rw [sides_len] at this
  omega
theorem farF_ok {n : Nat} (h1 : 1 ≤ n) (h6 : n ≤ 6) {V : List (List Int)} (hv : vchk n V = 0) {p : List Int} (hp : p.Perm (sides n)) : fchk n V p = 0 ∧ farA n V p = farT V p := by
  have e : fchk n V p = 0 := by unfold fchk; rw [if_neg (by simpa using hv), if_neg (by simpa using chk_perm hp h1 h6)]
  exact ⟨e, by unfold farA; rw [if_pos e]⟩
theorem tot_idx (p : List Int) (φ : Int → Nat) : ∀ k, k ≤ p.length → tot (p.take k) φ = sN (fun i => φ (p.getD i 0)) k := by
  intro k
  induction k with
  | zero => intro _; rfl
  | succ k ih => intro hk; rw [take_one (by omega), ih (by omega), sN]
/-- How many are, in the duels, against the first i of p. -/
def agR (V : List (List Int)) (p : List Int) (i k : Nat) : Nat := sN (fun j => cnt V (p.getD i 0) (p.getD j 0)) k
def agT (V : List (List Int)) (p : List Int) (i : Nat) : Nat := sN (fun i => agR V p i i) i
theorem ag_far {n : Nat} {V : List (List Int)} (hV : ∀ q ∈ V, q.Perm (sides n)) {p : List Int} (hp : p.Perm (sides n)) : agT V p n = farT V p := by
  have hl := perm_len hp
  have hnd := perm_nodup hp
  rw [far_cnt hV hp, ← tot_perm hp]
  have e1 : tot p (fun x => tot (sides n) (fun y => if pos p x < pos p y then cnt V y x else 0)) = tot p (fun x => tot p (fun y => if pos p x < pos p y then cnt V y x else 0)) := tot_congr (fun x _ => (tot_perm hp _).symm)
  rw [e1, tot_swap]
  have e2 := tot_idx p (fun y => tot p (fun x => if pos p x < pos p y then cnt V y x else 0)) n (by omega)
  rw [List.take_of_length_le (by omega)] at e2
  rw [e2]
  unfold agT
  refine sN_congr (fun i hi => ?_)
  have e3 := pos_idx hnd (k := i) (by omega)
  rw [e3, tot_take hnd (fun x => cnt V (p.getD i 0) x) (by omega), tot_idx p _ i (by omega)]
  rfl
theorem agR_le {V : List (List Int)} (hV : V.length ≤ 30) (p : List Int) (i k : Nat) : agR V p i k ≤ 30 * k := by
  unfold agR
  induction k with
  | zero => exact Nat.le_refl _
  | succ k ih => rw [sN]; have := cnt_le V (p.getD i 0) (p.getD k 0); omega
theorem agT_le {V : List (List Int)} (hV : V.length ≤ 30) (p : List Int) {i : Nat} (hi : i ≤ 6) : agT V p i ≤ 180 * i := by
  unfold agT
  induction i with
  | zero => exact Nat.le_refl _
  | succ i ih => rw [sN]; have := ih (by omega); have := agR_le hV p i i; omega

set_option maxHeartbeats 4000000 in
set_option maxRecDepth 100000 in
theorem topFar_is (mF : MFar) (tD : TDuelsM) (sS : WShare) (n0 : Int) (hn0 : -9223372036854775808 ≤ n0) (hn1 : n0 ≤ 9223372036854775807) (v : Value) (L : List (List Int)) {w : World} (f : IsRows w v L) (vx : Value) (X : List Int) (fx : IsInts w vx X) :
    Calls Try.prog 11 #[.int .i64 n0, v, vx] w fun e w' => e = .returned (.bool true) ∧ Below w.heap.size w w' := by
  obtain ⟨a, c, rfl, hr, hall, hlc, _, hcm, h24⟩ := f
  obtain ⟨ax, cx, rfl, hrx, hox, hlx, _, hcx, h8x⟩ := fx
  have HR := Lib.hid hr
  have HO : Hid (∀ l ∈ L, ∀ x ∈ l, Ok64 x) := fun l hl => (hall l hl).1
  have HRX := Lib.hid hrx
  have HOX := Lib.hid hox
  have W0 : Hid (∀ W, Calls Try.prog 42 #[] W fun e w' => e = .returned (.bool true) ∧ Below W.heap.size W w') := fun W => works_any sS W
  have MF : Hid MFar := mF
  have TD : Hid TDuelsM := tD
  clear hr hall mF tD sS h24 hrx hox
  go_enter Try.func11, Try.ntmps11
  go_wp2_with fail
  refine (within_any n0 6 w hn0 hn1 (by omega) (by omega)).mono ?_
  rintro e w1' ⟨rfl, rfl⟩
  obtain ⟨n, hn⟩ : ∃ n : Nat, 1 + n0 % 6 = n := ⟨(1 + n0 % 6).toNat, by omega⟩
  have h1 : 1 ≤ n := by omega
  have h6 : n ≤ 6 := by omega
  have e6 : n0 % 6 = (n : Int) - 1 := by omega
  rw [e6]
  have en : 1 + ((n : Int) - 1) = n := by omega
  clear hn e6 hn0 hn1
  go_wp2_with fail
  refine (votesOf_any n a L.length c L w HR.out hlc hcm h1 h6 HO.out).mono ?_
  rintro e w2 h
  obtain ⟨va, vc, rfl, _, _, hrV, hb02⟩ := h.use
  clear h
  have HV30 := votesOf_len n L
  have HP := Lib.hid (fun p (hp : p ∈ votesOf n L) => votesOf_mem hp)
  have HOK := Lib.hid (votesOf_v0 h1 h6 L)
  have RV := Lib.hid hrV
  generalize votesOf n L = V at *
  have hV30 : V.length ≤ 30 := by omega
  clear HV30 hrV HR HO hlc hcm
  go_wp2_with fail
  refine (orderOf_any n ax X.length cx X w2 w2.heap.size (Nat.le_refl _) (rd_ext HRX.out hb02) h1 h6 HOX.out).mono ?_
  rintro e w3 ⟨v3, rfl, o3, hb3⟩
  obtain ⟨p1, cp, rfl, hcp, _⟩ := own_slice o3
  have HNP := Lib.hid (ordOf_perm n X)
  have RN := Lib.hid (Rd.of_own o3)
  generalize ordOf n X = p at *
  have hb03 := ext_trans hb02 hb3
  have RV3 := Lib.hid (rdr_ext RV.out hb3)
  clear o3 HRX HOX hlx hcx h8x RV hb3 hb02
  have TI : Hid (∀ W, Below w3.heap.size w3 W → TabIn W va V.length V) := fun W hW => tabIn_smallF (rdr_ext RV3.out hW) (by omega) (perm_lenF HP.out h6)
  have QD : Hid (∀ W, Below w3.heap.size w3 W → Calls Try.prog 37 #[.int .i64 n, .slice va V.length vc] W (MatOut (duelsM n V) W)) := fun W hW => TD.out n va V.length vc V W W.heap.size (Nat.le_refl _) (rdr_ext RV3.out hW) (by omega) HOK.out
  have QF := MF.out n va V.length vc V p1 n cp p w3 (TI.out w3 (Below.refl _ w3)) RN.out (by omega) hcp
  rw [(farF_ok h1 h6 HOK.out HNP.out).1, (farF_ok h1 h6 HOK.out HNP.out).2, ← ag_far HP.out HNP.out] at QF
  have HQF := Lib.hid QF
  have HML := Lib.hid (duelsM_len n V)
  have HMR : Hid (∀ l ∈ duelsM n V, l.length = n) := fun l hl => duelsM_rows hl
  have HEN : Hid (∀ x y : Nat, x < n → y < n → ent (duelsM n V) x y = cnt V x y) := fun x y hx hy => ent_duels n V hx hy
  have HAT : Hid (∀ k, k < n → ∃ x : Nat, p.getD k 0 = x ∧ x < n) := fun k hk => at_nat HNP.out hk
  have HRS : Hid (∀ i k, agR V p i (k + 1) = agR V p i k + cnt V (p.getD i 0) (p.getD k 0)) := fun i k => rfl
  have HTS : Hid (∀ i, agT V p (i + 1) = agT V p i + agR V p i i) := fun i => rfl
  have HRB : Hid (∀ i k, agR V p i k ≤ 30 * k) := agR_le hV30 p
  have HTB : Hid (∀ i, i ≤ 6 → agT V p i ≤ 180 * i) := fun i hi => agT_le hV30 p hi
  have HR0 : Hid (∀ i, agR V p i 0 = 0) := fun i => rfl
  have HCB : Hid (∀ x y, cnt V x y ≤ 30) := fun x y => Nat.le_trans (cnt_le V x y) hV30
  clear MF TD TI HP HOK HNP QF
  generalize duelsM n V = M at *
  go_wp2_with fail
  refine HQF.out.mono ?_
  rintro e w4 ⟨rfl, hb4⟩
  go_wp2_with fail
  refine (QD.out w4 hb4).mono ?_
  rintro e w5 ⟨a5, c5, rfl, _, _, r5, hb5⟩
  rw [HML.out] at r5 ⊢
  have b35 := ext_trans hb4 hb5
  have hb05 := ext_trans hb03 b35
  have RP5 := Lib.hid (rd_ext RN.out b35)
  clear HQF QD hb4 hb5 b35 hb03 RN RV3
  go_wp2_with fail
  refine (W0.out w5).mono ?_
  rintro e w6 ⟨rfl, hb6⟩
  have hb06 := ext_trans hb05 hb6
  have RP6 := Lib.hid (rd_ext RP5.out hb6)
  have r56 := rdr_ext r5 hb6
  clear W0 hb05 hb6 RP5 r5
  go_wp2_with fail
  refine (tgood_zero w6.heap.size 0 2 2 _ (by omega) (zeros_at w6 23 2 #[.int .i64 0, .int .i64 0] rfl)).mono ?_
  rintro e w7 ⟨rfl, rfl⟩
  have b7 : Below w6.heap.size w6 (w6.alloc (.cells #[.int .i64 0, .int .i64 0] 23)) := (Below.refl _ _).alloc (Nat.le_refl _) _
  have hb07 := ext_trans hb06 b7
  have r57 := rdr_ext r56 b7
  have rp7 := rd_ext RP6.out b7
  obtain ⟨bm, om, rfl, hbm, hsq⟩ := rdr_square r57 (by omega) HMR.out
  obtain ⟨bp, op, rfl, hbp, hcp7⟩ := rp7.2 (by omega)
  have HSQ := Lib.hid hsq
  have HCP := Lib.hid hcp7
  clear b7 hb06 r56 r57 rp7 RP6 hsq hcp7
  generalize w6.alloc (.cells #[.int .i64 0, .int .i64 0] 23) = w7 at *
  have hnn : ((n : Int) != (n : Int)) = false := by simp
  obtain ⟨far, hfar⟩ : ∃ far, agT V p n = far := ⟨_, rfl⟩
  rw [hfar]
  have HFAR := Lib.hid hfar
  clear hfar
  go_wp2_with fail
  go_loopw [13, 55] (fun sv iv wr => ∃ (i d : Nat), i ≤ n ∧ iv = .int .i64 i ∧ sv = .int .i64 (agT V p i : Nat) ∧ Hid (wr = w7.drewN d)) (fun _ iv _ => n - (intOf iv).toNat)
  case atStart => exact ⟨0, 0, Nat.zero_le _, rfl, rfl, (show Hid _ from by show _ = _; rfl)⟩
  case round =>
    obtain ⟨i, d, hi, rfl, rfl, HWR⟩ := hrel
    by_cases hin : i < n
    · have htb := HTB.out i (by omega)
      have hts := HTS.out i
      obtain ⟨x, hx, hxn⟩ := HAT.out i hin
      have hci := HCP.out i hin
      rw [hx] at hci
      obtain ⟨bx, ox, cx, q1, q2, q3, q4, q5⟩ := HSQ.out x hxn
      have HTS2 := Lib.hid hts
      have HHX := Lib.hid hx
      clear hts hx
      generalize agT V p i = T0 at *
      obtain ⟨wo, rfl⟩ : ∃ wo, wo = wr := ⟨_, rfl⟩
      have hT0 : (T0 : Int) = ((T0 + agR V p i 0 : Nat) : Int) := by rw [HR0.out, Nat.add_zero]
      rw [hT0]
      clear hT0
      go_wp2_with fail
      go_loopw [13, 59] (fun sv kv wr => ∃ (k d : Nat), k ≤ i ∧ kv = .int .i64 k ∧ sv = .int .i64 ((T0 + agR V p i k : Nat) : Int) ∧ Hid (wr = w7.drewN d)) (fun _ kv _ => i - (intOf kv).toNat)
      case atStart => exact ⟨0, d, Nat.zero_le _, rfl, rfl, HWR⟩
      case round =>
        clear HWR
        obtain ⟨k, d, hk, rfl, rfl, HWR⟩ := hrel
        by_cases hki : k < i
        · obtain ⟨y, hy, hyn⟩ := HAT.out k (by omega)
          have hck := HCP.out k (by omega)
          rw [hy] at hck
          have q6 := q5 y hyn
          rw [HEN.out x y hxn hyn] at q6
          have hrs := HRS.out i k
          rw [HHX.out, hy] at hrs
          have HRS2 := Lib.hid hrs
          have hrb := HRB.out i k
          have hcb := HCB.out (x : Int) (y : Int)
          have s1 : wr.cell? ⟨bp, op + i, none⟩ = some (.int .i64 (x : Int)) := by rw [HWR.out]; exact hci
          have s2 : wr.cell? ⟨bp, op + k, none⟩ = some (.int .i64 (y : Int)) := by rw [HWR.out]; exact hck
          have s3 : wr.cell? ⟨bm, om + x, none⟩ = some (.slice (some ⟨bx, ox, none⟩) n cx) := by rw [HWR.out]; exact q1
          have s4 : wr.cell? ⟨bx, ox + y, none⟩ = some (.int .i64 (cnt V x y : Nat)) := by rw [HWR.out]; exact q6
          have z1 : (x : Int) < (n : Int) := by omega
          have z2 : (y : Int) < (n : Int) := by omega
          clear hrs hy hck q6
          generalize agR V p i k = A0 at *
          generalize cnt V (x : Int) (y : Int) = C0 at *
          go_wp2_with fail
          go_quiet (fail)
          go_wp2
          go_roundw
          case rel => exact ⟨k + 1, d + nq, by omega, by go_num, by rw [HRS2.out]; first | rfl | go_num | (congr 1; omega), (show Hid _ from by show _ = _; rw [HWR.out, World.drewN_drewN])⟩
          case measure => simp [intOf]; omega
        · obtain rfl : k = i := by omega
          rw [← HTS2.out]
          go_wp2
          go_roundw
          case rel => exact ⟨k + 1, d, by omega, by go_num, rfl, HWR⟩
          case measure => simp [intOf]; omega
    · obtain rfl : i = n := by omega
      rw [HFAR.out]
      have hbe : Below w.heap.size w wr := by rw [HWR.out]; exact below_drewN hb07 d
      go_wp2
      go_ret
      exact ⟨by first | rfl | simp, hbe⟩
end Go.Proofs.Ythcaipnlgbnfkaa

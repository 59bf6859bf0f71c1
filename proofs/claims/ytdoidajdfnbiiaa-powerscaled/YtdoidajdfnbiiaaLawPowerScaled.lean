/-
  plumekeep.PowerScaled returns true, for every slice of ints and three ints, if package power keeps its contracts; nothing that was there is written.
-/
import Derived.Test.YtdoidajdfnbiiaaCPowers
import Derived.Test.YtdoidajdfnbiiaaPowerW
import Derived.Test.YtdoidajdfnbiiaaApp
import Derived.Test.YtdoidajdfnbiiaaCClone
import Derived.Deep.DeepCutAuto
import Derived.Deep.RegionLaw
import Derived.IntWalk
import Derived.BigQuiet
import Derived.Deep.QuietTactic
namespace Go.Proofs.Ytdoidajdfnbiiaa
open Go.RowKit Fm
set_option linter.unusedVariables false

def moreW (c : Nat) (P : List Int) : List Int := P.map fun x => x * (c : Int)
theorem moreW_len (c : Nat) (P : List Int) : (moreW c P).length = P.length := by simp [moreW]
theorem moreW_at {c : Nat} {P : List Int} {k : Nat} (hk : k < P.length) : (moreW c P).getD k 0 = P.getD k 0 * c := by
  unfold moreW
  rw [getD_get (by rw [List.length_map]; exact hk), getD_get hk]
  simp
theorem moreW_wt {c : Nat} {P : List Int} (hb : ∀ x ∈ P, 0 ≤ x) : wt (moreW c P) = fun i => c * wt P i := by
  funext i
  unfold wt moreW
  by_cases hi : i < P.length
  · rw [getD_get (by rw [List.length_map]; exact hi), List.getElem_map, getD_get hi]
    have := hb _ (List.getElem_mem hi)
    obtain ⟨k, hk⟩ : ∃ k : Nat, P[i] = k := ⟨(P[i]).toNat, by omega⟩
    rw [hk, ← Int.natCast_mul, Int.toNat_natCast, Int.toNat_natCast, Nat.mul_comm]
  · rw [List.getD_eq_getElem?_getD, List.getElem?_eq_none (by rw [List.length_map]; omega), List.getD_eq_getElem?_getD, List.getElem?_eq_none (by omega)]
    simp
theorem hv_scale (W : Nat → Nat) (n S c : Nat) : hv (fun i => c * W i) n S = c * hv W n S := by
  unfold hv
  rw [← sN_mul]
  exact sN_congr (fun j _ => by split <;> simp)
theorem win_scale {W : Nat → Nat} {n q S c : Nat} (hc : 1 ≤ c) : winB2 (fun i => c * W i) n (q * c) S = winB2 W n q S := by
  unfold winB2
  rw [hv_scale, Nat.mul_comm q c]
  exact decide_eq_decide.2 (Nat.mul_le_mul_left_iff (by omega))
theorem sw_scale {W : Nat → Nat} {n q i c : Nat} (hc : 1 ≤ c) : swN (fun i => c * W i) n (q * c) i = swN W n q i := by
  unfold swN
  refine cS_congr (fun S _ => ?_)
  unfold turnB
  rw [hv_scale, Nat.mul_comm q c, ← Nat.mul_add]
  rw [decide_eq_decide.2 (Nat.mul_le_mul_left_iff (show 0 < c by omega)), decide_eq_decide.2 (Nat.mul_lt_mul_left (show 0 < c by omega))]
theorem Wgt.more {P : List Int} {q c : Nat} (g : Wgt P q) (h1 : 1 ≤ c) (h40 : c ≤ 40) (hb : ∀ x ∈ P, 0 ≤ x ∧ x ≤ 19) : Wgt (moreW c P) (q * c) := by
  refine ⟨by rw [moreW_len]; exact g.pos, by rw [moreW_len]; exact g.le, fun x hx => ?_, ?_, ?_⟩
  · unfold moreW at hx
    rw [List.mem_map] at hx
    obtain ⟨y, hy, rfl⟩ := hx
    have := hb y hy
    obtain ⟨k, rfl⟩ : ∃ k : Nat, y = k := ⟨y.toNat, by omega⟩
    have hk : k ≤ 19 := by omega
    rw [← Int.natCast_mul]
    have := Nat.mul_le_mul hk h40
    omega
  · exact Nat.mul_pos (by have := g.q1; omega) (by omega)
  · rw [moreW_len, moreW_wt (fun x hx => (hb x hx).1), sN_mul, Nat.mul_comm]
    exact Nat.mul_le_mul_left c g.q2
theorem swL_more {P : List Int} {q c : Nat} (h1 : 1 ≤ c) (hb : ∀ x ∈ P, 0 ≤ x) : swL (moreW c P) (q * c) = swL P q := by
  unfold swL
  rw [moreW_len, moreW_wt hb]
  exact fnL_congr _ (fun i hi => by rw [Int.toNat_natCast, sw_scale h1])
/-- One more, of no weight. -/
theorem wt_zero (P : List Int) : ∀ i, wt (P ++ [0]) i = wt P i := fun i => by
  unfold wt
  rw [List.getD_eq_getElem?_getD, List.getD_eq_getElem?_getD]
  by_cases h : i < P.length
  · rw [List.getElem?_append_left h]
  · rw [List.getElem?_append_right (by omega), List.getElem?_eq_none (by omega : P.length ≤ i)]
    by_cases e : i - P.length = 0
    · rw [e]; rfl
    · rw [List.getElem?_eq_none (by simp; omega)]
theorem Wgt.zero {P : List Int} {q : Nat} (g : Wgt P q) (h : P.length < 6) : Wgt (P ++ [0]) q := by
  have hl : (P ++ [0]).length = P.length + 1 := by simp
  refine ⟨by omega, by omega, fun x hx => ?_, g.q1, ?_⟩
  · rw [List.mem_append, List.mem_singleton] at hx
    rcases hx with hx | rfl
    · exact g.bd x hx
    · omega
  · rw [hl, sN, sN_congr (fun i _ => wt_zero P i)]
    have := g.q2
    omega
theorem win_zero {P : List Int} {n q S : Nat} (hn : P.length = n) (hS : S < 2 ^ n) : winB2 (wt (P ++ [0])) (n + 1) q (S ||| 2 ^ n) = winB2 (wt P) n q S := by
  have e : hv (wt (P ++ [0])) (n + 1) (S ||| 2 ^ n) = hv (wt P) n S := by
    unfold hv
    rw [sN]
    have h0 : wt (P ++ [0]) n = 0 := by rw [wt_zero]; unfold wt; rw [List.getD_eq_getElem?_getD, List.getElem?_eq_none (by omega)]; rfl
    have h1 : sN (fun j => if (S ||| 2 ^ n).testBit j = true then wt (P ++ [0]) j else 0) n = sN (fun j => if S.testBit j = true then wt P j else 0) n := sN_congr (fun j hj => by
      rw [wt_zero]
      have : (S ||| 2 ^ n).testBit j = S.testBit j := by
        rw [Nat.testBit_or, Nat.testBit_two_pow]
        have : decide (n = j) = false := decide_eq_false (by omega)
        rw [this, Bool.or_false]
      rw [this])
    rw [h1]
    have : (if (S ||| 2 ^ n).testBit n = true then wt (P ++ [0]) n else 0) = 0 := by split
      <;> first | exact h0 | rfl
    rw [this, Nat.add_zero]
  unfold winB2
  rw [e]
theorem or_at : ∀ n : Nat, n < 6 → ∀ s : Nat, s < 2 ^ n → bits BinOp.or IntKind.i64 (s : Int) (2 ^ n) = ((s ||| 2 ^ n : Nat) : Int) := by decide +kernel

theorem clone_arm {w9 w10 : World} {v10 : Value} {k : Nat} {P : List Int} (o10 : w10.ownsRow w9.drew.heap.size 3 1 v10 k (I P)) (hb10 : Below w9.drew.heap.size w9.drew w10) :
    (w10.alloc (.cells #[.int .i64 0] 3)).ownsRow w9.heap.size 3 1 v10 k (I P) ∧ Rd (w10.alloc (.cells #[.int .i64 0] 3)) (w10.heap.size + 1) (some ⟨w10.heap.size, 0, none⟩) 1 [0] ∧
      w9.heap.size ≤ (w10.alloc (.cells #[.int .i64 0] 3)).heap.size ∧ Below w9.heap.size w9 (w10.alloc (.cells #[.int .i64 0] 3)) := by
  have hs : w9.heap.size ≤ w10.heap.size := hb10.size
  have hb : Below w9.heap.size w9 w10 := ⟨hb10.os, hb10.tape, hb10.output, hb10.size, hb10.block⟩
  have o : w10.ownsRow w9.heap.size 3 1 v10 k (I P) := o10
  exact ⟨o.alloc _, Rd.lit w10 3 [0] #[.int .i64 0] rfl, by rw [World.size_alloc]; omega, hb.alloc hs _⟩
theorem clone_arm2 {w9 w10 : World} {v10 : Value} {k : Nat} {P : List Int} (o10 : w10.ownsRow (w9.alloc (.cells #[.int .i64 0] 3)).drew.heap.size 3 1 v10 k (I P)) (hb10 : Below (w9.alloc (.cells #[.int .i64 0] 3)).drew.heap.size (w9.alloc (.cells #[.int .i64 0] 3)).drew w10) :
    w10.ownsRow w9.heap.size 3 1 v10 k (I P) ∧ Rd w10 w10.heap.size (some ⟨w9.heap.size, 0, none⟩) 1 [0] ∧ w9.heap.size ≤ w10.heap.size ∧ Below w9.heap.size w9 w10 := by
  have hbd2 : Below w9.heap.size w9 (w9.alloc (.cells #[.int .i64 0] 3)) := (Below.refl _ _).alloc (Nat.le_refl _) _
  have lit2 : Rd (w9.alloc (.cells #[.int .i64 0] 3)) (w9.alloc (.cells #[.int .i64 0] 3)).heap.size (some ⟨w9.heap.size, 0, none⟩) 1 [0] := by simpa using Rd.lit w9 3 [0] #[.int .i64 0] rfl
  have hb : Below (w9.alloc (.cells #[.int .i64 0] 3)).heap.size (w9.alloc (.cells #[.int .i64 0] 3)) w10 := ⟨hb10.os, hb10.tape, hb10.output, hb10.size, hb10.block⟩
  have o : w10.ownsRow (w9.alloc (.cells #[.int .i64 0] 3)).heap.size 3 1 v10 k (I P) := o10
  exact ⟨own_mono o hbd2.size, rd_ext lit2 hb, Nat.le_trans hbd2.size hb.size, hbd2.trans (hb.mono hbd2.size)⟩
theorem below_drew (w9 : World) : Below w9.heap.size w9 w9.drew := ⟨rfl, rfl, rfl, Nat.le_refl _, fun _ _ => rfl⟩
theorem below_drewA (w9 : World) (o : Obj) : Below w9.heap.size w9 (w9.alloc o).drew := by
  have h : Below w9.heap.size w9 (w9.alloc o) := (Below.refl _ _).alloc (Nat.le_refl _) o
  exact ⟨h.os, h.tape, h.output, h.size, h.block⟩
theorem pw_at6 {n : Nat} (h : n ≤ 6) : IntKind.i64.wrap ((2 : Int) ^ n) = ((2 ^ n : Nat) : Int) := by
  have : n = 0 ∨ n = 1 ∨ n = 2 ∨ n = 3 ∨ n = 4 ∨ n = 5 ∨ n = 6 := by omega
  rcases this with rfl | rfl | rfl | rfl | rfl | rfl | rfl <;> decide +kernel

set_option maxHeartbeats 4000000 in
set_option maxRecDepth 100000 in
theorem powerScaled_is (sS : PwSwings) (sT : PwTurns) (sW : PwWins) (v1 : Value) (l : List Int) {w : World} (f1 : IsInts w v1 l) (n0 : Int) (hn0 : -9223372036854775808 ≤ n0) (hn1 : n0 ≤ 9223372036854775807)
    (y0 : Int) (hy0 : -9223372036854775808 ≤ y0) (hy1 : y0 ≤ 9223372036854775807) (s0 : Int) (hs0 : -9223372036854775808 ≤ s0) (hs1 : s0 ≤ 9223372036854775807) :
    Calls Try.prog 7 #[v1, .int .i64 n0, .int .i64 y0, .int .i64 s0] w fun e w' => e = .returned (.bool true) ∧ Below w.heap.size w w' := by
  obtain ⟨a, c, rfl, hr, hox, hlc, _, hcm, _⟩ := f1
  have HR := Lib.hid hr
  have HO := Lib.hid hox
  have W0 : Hid (∀ W, Calls Try.prog 17 #[] W fun e w' => e = .returned (.bool true) ∧ Below W.heap.size W w') := fun W => powers_any sS sT W
  have SS : Hid PwSwings := sS
  have ST : Hid PwTurns := sT
  have SW : Hid PwWins := sW
  clear sS sT sW hr hox
  go_enter Try.func7, Try.ntmps7
  go_wp2_with fail
  refine (W0.out w).mono ?_
  rintro e w1 ⟨rfl, hb1⟩
  clear W0
  go_wp2_with fail
  refine (weightsOf_any a l.length c l n0 w1 (rd_ext HR.out hb1) hlc hcm HO.out hn0 hn1).mono ?_
  rintro e w2 ⟨ap, cp, q, rfl, hpc, rP, hg, hb2⟩
  have HBD : Hid (∀ x ∈ weightsOf l, 0 ≤ x ∧ x ≤ 19) := weightsK_bd l 5
  have G := Lib.hid hg
  have RP := Lib.hid rP
  have hb02 := ext_trans hb1 hb2
  generalize weightsOf l = P at *
  have hp1 := hg.pos
  have hp6 := hg.le
  have hq1 := hg.q1
  have hqs := hg.q2
  obtain ⟨n, hn⟩ : ∃ n, P.length = n := ⟨_, rfl⟩
  have HN := Lib.hid hn
  have hsb : sN (wt P) n ≤ 114 := by
    have h1 := sN_bd (f := wt P) (b := 19) (n := n) (fun i hi => by have := HBD.out _ (getD_mem P i (by rw [hn]; exact hi)); unfold wt; omega)
    omega
  rw [hn] at hp1 hp6 hpc hqs RP ⊢
  clear hb1 hb2 HR HO hg rP hn0 hn1
  obtain ⟨N, hNN⟩ : ∃ N : Nat, 2 ^ n = N := ⟨_, rfl⟩
  have hN64 : N ≤ 64 := by rw [← hNN]; exact pow_le6 hp6
  have hN1 : 1 ≤ N := by rw [← hNN]; exact Nat.two_pow_pos n
  have HPW2 : Hid (IntKind.i64.wrap ((2 : Int) ^ n) = (N : Int)) := by show _ = _; rw [← hNN]; exact pw_at6 hp6
  have hNa : (1 : Int) ≤ (N : Int) := by omega
  have hNb : (N : Int) ≤ 1000000 := by omega
  have hpw : wrap64 (2 ^ n) = (N : Int) := by rw [← hNN]; exact pw_at hp6
  go_wp2_with fail
  refine (within_any y0 40 w2 hy0 hy1 (by omega) (by omega)).mono ?_
  rintro e w2' ⟨rfl, rfl⟩
  obtain ⟨d, hd⟩ : ∃ d : Int, y0 % 40 = d := ⟨_, rfl⟩
  have hd0 : 0 ≤ d ∧ d ≤ 39 := by omega
  rw [hd]
  clear hd hy0 hy1
  obtain ⟨M, hM⟩ : ∃ M : Nat, 1 + d = (M : Int) := ⟨(1 + d).toNat, by omega⟩
  have hM1 : 1 ≤ M := by omega
  have hM40 : M ≤ 40 := by omega
  obtain ⟨qM, hqM⟩ : ∃ k : Nat, q * M = k := ⟨_, rfl⟩
  have hqM9 : qM ≤ 4560 := by rw [← hqM]; exact Nat.le_trans (Nat.mul_le_mul (show q ≤ 114 by omega) hM40) (by omega)
  have m0 : (q : Int) * (M : Int) = (qM : Int) := by rw [← hqM, Int.natCast_mul]
  have GM := Lib.hid (G.out.more hM1 hM40 HBD.out)
  have HLM : Hid ((moreW M P).length = n) := by show _ = _; rw [moreW_len, hn]
  have HSL := Lib.hid (swL_more (q := q) hM1 (fun x hx => (HBD.out x hx).1))
  have HWS : Hid (∀ S, winB2 (wt (moreW M P)) n qM S = winB2 (wt P) n q S) := fun S => by rw [moreW_wt (fun x hx => (HBD.out x hx).1), ← hqM]; exact win_scale hM1
  rw [hqM] at GM HSL
  have QS := Lib.hid (sw_use SS.out G.out HN.out ap cp hpc)
  have QW : Hid (∀ S W, S < N → Rd W W.heap.size ap n P → Calls Try.prog 9 #[.slice ap n cp, .int .i64 q, .int .i64 S] W fun e w' => e = .returned (.tuple #[.bool (winB2 (wt P) n q S), .int .i64 0]) ∧ Below W.heap.size W w') := fun S W hS hr => win_use SW.out G.out HN.out ap cp hpc (by rw [hNN]; exact hS) W hr
  have QSM : Hid (∀ a c W, n ≤ c → Rd W W.heap.size a n (moreW M P) → Calls Try.prog 10 #[.slice a n c, .int .i64 qM] W (PwOut n (swL P q) W)) := fun a c W hc hr => by
    have q1 := sw_use SS.out GM.out HLM.out a c hc W hr
    rw [HSL.out] at q1
    exact q1
  have QWM : Hid (∀ a c S W, n ≤ c → S < N → Rd W W.heap.size a n (moreW M P) → Calls Try.prog 9 #[.slice a n c, .int .i64 qM, .int .i64 S] W fun e w' => e = .returned (.tuple #[.bool (winB2 (wt P) n q S), .int .i64 0]) ∧ Below W.heap.size W w') := fun a c S W hc hS hr => by
    have q1 := win_use SW.out GM.out HLM.out a c hc (by rw [hNN]; exact hS) W hr
    rw [HWS.out] at q1
    exact q1
  have HX : Hid (∀ i, i < n → ∃ x : Nat, P.getD i 0 = x ∧ x ≤ 19) := fun i hi => by
    have hi' : i < P.length := by rw [hn]; exact hi
    have := HBD.out _ (getD_mem P i hi')
    exact ⟨(P.getD i 0).toNat, by omega, by omega⟩
  have QWZ : Hid (n < 6 → ∀ a c S W, n + 1 ≤ c → S < N → Rd W W.heap.size a (n + 1) (P ++ [0]) → Calls Try.prog 9 #[.slice a (n + 1) c, .int .i64 q, .int .i64 ((S ||| 2 ^ n : Nat) : Int)] W fun e w' => e = .returned (.tuple #[.bool (winB2 (wt P) n q S), .int .i64 0]) ∧ Below W.heap.size W w') := fun h6 a c S W hc hS hr => by
    have hSn : S < 2 ^ n := by rw [hNN]; exact hS
    have q1 := win_use SW.out (G.out.zero (by rw [hn]; exact h6)) (show (P ++ [0]).length = n + 1 by simp [hn]) a c hc (S := S ||| 2 ^ n) (Nat.or_lt_two_pow (Nat.lt_of_lt_of_le hSn (Nat.pow_le_pow_right (by omega) (by omega))) (Nat.pow_lt_pow_right (by omega) (by omega))) W hr
    rw [win_zero HN.out hSn] at q1
    exact q1
  have HOR : Hid (n < 6 → ∀ s, s < N → bits BinOp.or IntKind.i64 (s : Int) (2 ^ n) = ((s ||| 2 ^ n : Nat) : Int) ∧ bits BinOp.or IntKind.i64 (s : Int) (N : Int) = ((s ||| 2 ^ n : Nat) : Int)) := fun h6 s hs => by
    have q1 := or_at n h6 s (by rw [hNN]; exact hs)
    have e : ((2 : Int) ^ n) = (N : Int) := by rw [← hNN]; exact (Int.natCast_pow 2 n).symm
    exact ⟨q1, by rw [← e]; exact q1⟩
  obtain ⟨b5, o5, rfl, hbb5, hc5⟩ := RP.out.2 (by omega)
  have C5 := Lib.hid hc5
  have HM := Lib.hid hM
  clear hn hNN SS ST SW hc5 hqM GM HLM HSL HWS
  go_wp2_with fail
  clear hM
  go_loopw [11, 37] (fun sv iv wr => ∃ k : Nat, k ≤ n ∧ iv = .int .i64 k ∧ wr.ownsRow w2.heap.size 3 1 sv k (I ((moreW M P).take k)) ∧ Below w2.heap.size w2 wr) (fun _ iv _ => n - (intOf iv).toNat)
  case atStart => exact ⟨0, Nat.zero_le _, rfl, World.ownsRow_nil _ _ _ _, Below.refl _ _⟩
  case round =>
    obtain ⟨k, hk, rfl, own, hbel⟩ := hrel
    have hz := hbel.size
    by_cases hkn : k < n
    · obtain ⟨x, ex, hx⟩ := HX.out k hkn
      have rx : wr.cell? ⟨b5, o5 + k, none⟩ = some (.int .i64 x) := by rw [hbel.cell (by exact hbb5), ← ex]; exact C5.out k hkn
      obtain ⟨X, hX⟩ : ∃ X : Nat, x * M = X := ⟨_, rfl⟩
      have lX : X ≤ 760 := by rw [← hX]; exact Nat.mul_le_mul hx hM40
      have m1 : (x : Int) * (M : Int) = (X : Int) := by rw [← hX, Int.natCast_mul]
      have HS : Hid ((moreW M P).take (k + 1) = (moreW M P).take k ++ [(X : Int)]) := by
        show _ = _
        have hkl : k < (moreW M P).length := by rw [moreW_len, HN.out]; exact hkn
        rw [take_succ_getD _ k hkl, moreW_at (by rw [HN.out]; exact hkn), ex, m1]
      clear ex hX
      generalize (moreW M P).take k = qq at *
      go_wp2_with (at_builtin; refine push1 rfl _ _ rfl wr w2.heap.size _ k qq (X : Int) rfl rfl (by exact own) hz (by omega) ?_)
      intro g4 cap4 w4 own4 gr4 _ _
      have hb4 := hbel.grown gr4 hz (own_not own)
      clear gr4 own hbel rx m1
      go_wp2
      go_roundw
      case rel => exact ⟨k + 1, by omega, by go_num, by rw [HS.out]; exact own4, hb4⟩
      case measure => simp [intOf]; omega
    · obtain rfl : k = n := by omega
      rw [List.take_of_length_le (by rw [moreW_len, HN.out]; exact Nat.le_refl _)] at own
      obtain ⟨g6, c6, rfl, _, _, hc6, _, _⟩ := own_form own (by omega)
      have RM := Lib.hid (Rd.of_own own)
      have RP2 := Lib.hid (rd_ext RP.out hbel)
      have hb03 := ext_trans hb02 hbel
      clear own hbel C5 HX hb02
      go_wp2_with fail
      refine (QS.out wr RP2.out).mono ?_
      rintro e w4 ⟨a4, c4, rfl, r4, hb4⟩
      go_wp2_with fail
      refine (QSM.out (some ⟨g6, 0, none⟩) c6 w4 hc6 (rd_ext RM.out hb4)).mono ?_
      rintro e w5 ⟨a5, c5, rfl, r5, hb5⟩
      have hb35 := ext_trans hb4 hb5
      have r45 := rd_ext r4 hb5
      clear QS QSM r4 hb4 hb5
      go_wp2_with fail
      with_reducible refine (within_any s0 (N : Int) w5 hs0 hs1 hNa hNb).mono ?_
      rintro e w5' ⟨rfl, rfl⟩
      have HPW := Lib.hid hpw
      clear hpw
      obtain ⟨S, hS⟩ : ∃ S : Nat, s0 % (N : Int) = S := ⟨(s0 % (N : Int)).toNat, by have := Int.emod_nonneg s0 (show (N : Int) ≠ 0 by omega); omega⟩
      have hSN : S < N := by have := Int.emod_lt_of_pos s0 (show 0 < (N : Int) by omega); omega
      rw [hS]
      clear hS hs0 hs1
      have QW1 := Lib.hid (fun W (hW : Below w5.heap.size w5 W) => QW.out S W hSN (rd_ext (rd_ext RP2.out hb35) hW))
      have QW2 := Lib.hid (fun W (hW : Below w5.heap.size w5 W) => QWM.out (some ⟨g6, 0, none⟩) c6 S W hc6 hSN (rd_ext (rd_ext RM.out hb35) hW))
      have QW3 := Lib.hid (fun h6 a c W hc hr => QWZ.out h6 a c S W hc hSN hr)
      have HOR2 := Lib.hid (fun h6 => HOR.out h6 S hSN)
      generalize winB2 (wt P) k q S = r at *
      go_wp2_with fail
      refine (QW1.out w5 (Below.refl _ _)).mono ?_
      rintro e w6 ⟨rfl, hb6⟩
      go_wp2_with fail
      refine (QW2.out w6 hb6).mono ?_
      rintro e w7 ⟨rfl, hb7⟩
      have hb57 := ext_trans hb6 hb7
      have r47 := rd_ext r45 hb57
      have r57 := rd_ext r5 hb57
      have hb07 := ext_trans hb03 (ext_trans hb35 hb57)
      have RP7 := Lib.hid (rd_ext (rd_ext RP2.out hb35) hb57)
      clear QW1 QW2 QW QWM QWZ HOR r45 r5 hb6 hb7 hb57 hb35 hb03 RP2 RM
      go_wp2_with fail
      refine (good_zero w7.heap.size 0 4 4 _ (by omega) (zeros_at w7 23 4 #[.int .i64 0, .int .i64 0, .int .i64 0, .int .i64 0] rfl)).mono ?_
      rintro e w8 ⟨rfl, rfl⟩
      have b8 : Below w7.heap.size w7 (w7.alloc (.cells #[.int .i64 0, .int .i64 0, .int .i64 0, .int .i64 0] 23)) := (Below.refl _ _).alloc (Nat.le_refl _) _
      have hb08 := ext_trans hb07 b8
      have r48 := rd_ext r47 b8
      have r58 := rd_ext r57 b8
      have RP8 := Lib.hid (rd_ext RP7.out b8)
      clear b8 hb07 r47 r57 RP7
      generalize w7.alloc (.cells #[.int .i64 0, .int .i64 0, .int .i64 0, .int .i64 0] 23) = w8 at *
      have QE := Lib.hid (equal_ext (swL P q) (swL P q) a4 a5 k c4 k c5 w8 r48 r58 (by omega) (by omega))
      rw [show decide (swL P q = swL P q) = true from decide_eq_true rfl] at QE
      have hrr : (r != r) = false := by simp
      have hrr2 : (r == r) = true := by simp
      go_wp2_with fail
      refine QE.out.mono ?_
      rintro e w9 ⟨rfl, hb9⟩
      have RP9 := Lib.hid (rd_ext RP8.out hb9)
      have hb09 := ext_trans hb08 hb9
      clear QE r48 r58 RP8 hb9 hb08
      by_cases h6 : k = 6
      · have hk6 : ((k : Int) == 6) = true := by rw [beq_iff_eq]; omega
        clear h6
        go_wp2
        go_ret
        exact ⟨rfl, hb09⟩
      · have hk6 : ((k : Int) == 6) = false := beq_eq_false_iff_ne.2 (by omega)
        have hk5 : k < 6 := by omega
        have HOR3 := Lib.hid (HOR2.out hk5)
        have QZ := Lib.hid (QW3.out hk5)
        obtain ⟨S2, hS2⟩ : ∃ S2 : Nat, S ||| 2 ^ k = S2 := ⟨_, rfl⟩
        rw [hS2] at HOR3 QZ
        have HB9 := Lib.hid hb09
        clear h6 HOR2 QW3 hS2 hb09
        have QCL : Hid (∀ W, Below w9.heap.size w9 W → Calls Try.prog 22 #[.slice (some ⟨b5, o5, none⟩) k cp] W fun e w' => ∃ v, e = .returned v ∧ w'.ownsRow W.heap.size 3 1 v k (I P) ∧ Below W.heap.size W w') := fun W hW => clone_any P (some ⟨b5, o5, none⟩) k cp W W.heap.size (rd_ext RP9.out hW) (by omega)
        have n1 : k ≤ 1000000 := by omega
        have e3 : bits BinOp.or IntKind.i64 (S : Int) (IntKind.i64.wrap (2 ^ k)) = (S2 : Int) := by
          have h : IntKind.i64.wrap ((2 : Int) ^ k) = (N : Int) := HPW2.out
          rw [h]; exact HOR3.out.2
        rw [← e3] at QZ
        clear e3
        go_upto_region 20 with fail
        go_cut [22, 23] (fun s22 s23 wx => s22 = .bool r ∧ s23 = .int .i64 0 ∧ Below w.heap.size w wx)
        case' first =>
          go_region_law (first
            | (go_simp; go_at_call 22; with_reducible refine (QCL.out (w9.alloc (.cells #[.int .i64 0] 3)).drew (below_drewA w9 _)).mono ?_; rintro e w10 ⟨v10, rfl, o10, hb10⟩; obtain ⟨o11, l11, z11, hb11⟩ := clone_arm2 o10 hb10; clear o10 hb10)
            | (go_simp; go_at_call 22; with_reducible refine (QCL.out w9.drew (below_drew w9)).mono ?_; rintro e w10 ⟨v10, rfl, o10, hb10⟩; obtain ⟨o11, l11, z11, hb11⟩ := clone_arm o10 hb10; clear o10 hb10)
            | (go_simp; go_at_call 9; with_reducible refine (QZ.out a12 c12 w12 hc12 r12).mono ?_; rintro e w13 ⟨rfl, hb13⟩; have hb013 := ext_trans HB9.out (ext_trans hb12 hb13))
            | (refine stepApp _ w9.heap.size _ k P o11 _ _ _ [0] _ (fun h => by cases h) l11 z11 n1 (by decide) rfl _ _ rfl rfl rfl ?_; intro v2 w12 o12 g12 h12; obtain ⟨a12, c12, rfl, hc12, _⟩ := own_slice o12; have hb12 := hb11.grown g12 z11 (own_not o11); have r12 := Rd.of_own o12; clear o12 g12 h12))
          all_goals
            clear QZ QCL
            go_wp2_with fail
            go_meet
            exact ⟨rfl, rfl, hb013⟩
        case' rest =>
          obtain ⟨rfl, rfl, hbw⟩ := hcut
          clear QZ QCL
          go_wp2
          go_ret
          exact ⟨rfl, hbw⟩
end Go.Proofs.Ytdoidajdfnbiiaa

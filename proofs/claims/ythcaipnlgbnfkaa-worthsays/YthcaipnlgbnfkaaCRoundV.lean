/-
  plumeref.RoundOf and WorthErr: what they answer; nothing that was there is written.
-/
import Derived.Test.YthcaipnlgbnfkaaWorthP
import Derived.Test.YthcaipnlgbnfkaaCFuncI
import Derived.Test.YthcaipnlgbnfkaaCWorths
import Derived.BigQuiet
import Derived.Deep.QuietTactic
namespace Go.Proofs.Ythcaipnlgbnfkaa
open Go.RowKit Fm
set_option linter.unusedVariables false

theorem or64 : ∀ a : Nat, a < 64 → ∀ b : Nat, b < 64 → bits BinOp.or IntKind.i64 (a : Int) (b : Int) = ((a ||| b : Nat) : Int) := by decide +kernel
theorem and64 : ∀ a : Nat, a < 64 → ∀ b : Nat, b < 64 → bits BinOp.and IntKind.i64 (a : Int) (b : Int) = ((a &&& b : Nat) : Int) := by decide +kernel
def cvP (V : List Int) (a b : Nat) : Prop := val V a + val V b ≤ val V (a ||| b) + val V (a &&& b)
theorem conv_half {n : Nat} {V : List Int} : convB n V = true ↔ ∀ a b, a < 2 ^ n → b < a → cvP V a b := by
  rw [convB_iff]
  constructor
  · intro h a b ha hb
    exact h a b ha (by omega)
  · intro h a b ha hb
    by_cases c1 : b < a
    · exact h a b ha c1
    · by_cases c2 : a < b
      · have := h b a hb c2
        unfold cvP at this
        rw [Nat.or_comm, Nat.and_comm] at this
        omega
      · have : a = b := by omega
        subst this
        rw [Nat.or_self, Nat.and_self]
        exact Int.le_refl _

set_option maxHeartbeats 2000000 in
set_option maxRecDepth 100000 in
theorem roundOfV_any {n N : Nat} {V : List Int} (g : Gm n V) (hN : 2 ^ n = N) (a : Option Addr) (c : Nat) (w : World) (hr : Rd w w.heap.size a N V) :
    Calls Try.prog 22 #[.slice a N c] w fun e w' => e = .returned (.bool (convB n V)) ∧ Below w.heap.size w w' := by
  have h6 := g.le
  have hN64 : N ≤ 64 := by rw [← hN]; exact pow6 h6
  have hN1 : 1 ≤ N := by rw [← hN]; exact pow1 n
  have HYES : Hid ((∀ x y, x < N → y < x → cvP V x y) → convB n V = true) := fun h => conv_half.2 (by rw [hN]; exact h)
  have HNO : Hid (∀ x y, x < N → y < x → ¬ cvP V x y → convB n V = false) := fun x y hx hy h => by
    cases q : convB n V with
    | false => rfl
    | true => exact absurd (conv_half.1 q x y (by rw [hN]; exact hx) hy) h
  have HLT : Hid (∀ x y, x < N → y < N → x ||| y < N ∧ x &&& y < N) := fun x y hx hy => by
    rw [← hN] at hx hy ⊢
    exact ⟨Nat.or_lt_two_pow hx hy, Nat.and_lt_two_pow _ hy⟩
  have HVB : Hid (∀ S, -1000000 ≤ val V S ∧ val V S ≤ 1000000) := g.val_bd
  obtain ⟨bv, ov, rfl, hbv, hcv⟩ := hr.2 (by omega)
  have HCV : Hid (∀ j, j < N → w.cell? ⟨bv, ov + j, none⟩ = some (.int .i64 (val V j))) := hcv
  clear hr g hcv hN
  generalize convB n V = res at *
  go_enter Try.func22, Try.ntmps22
  go_wp2_with fail
  go_loopw [7] (fun iv wr => ∃ (x d : Nat), x ≤ N ∧ iv = .int .i64 x ∧ Hid (∀ p q, p < x → q < p → cvP V p q) ∧ Hid (wr = w.drewN d)) (fun iv _ => N - (intOf iv).toNat)
  case atStart => exact ⟨0, 0, Nat.zero_le _, rfl, (show Hid _ from fun p q hp => by omega), (show Hid _ from by show _ = _; rfl)⟩
  case round =>
    obtain ⟨x, d, hx, rfl, HX, HWR⟩ := hrel
    by_cases hxN : x < N
    · obtain ⟨wo, rfl⟩ : ∃ wo, wo = wr := ⟨_, rfl⟩
      go_wp2_with fail
      go_loopw [11] (fun iv wr => ∃ (y d : Nat), y ≤ x ∧ iv = .int .i64 y ∧ Hid (∀ q, q < y → cvP V x q) ∧ Hid (wr = w.drewN d)) (fun iv _ => x - (intOf iv).toNat)
      case atStart => exact ⟨0, d, Nat.zero_le _, rfl, (show Hid _ from fun q hq => by omega), HWR⟩
      case round =>
        clear HWR
        obtain ⟨y, d, hy, rfl, HY, HWR⟩ := hrel
        by_cases hyx : y < x
        · obtain ⟨l1, l2⟩ := HLT.out x y hxN (by omega)
          have o1 := or64 x (by omega) y (by omega)
          have o2 := and64 x (by omega) y (by omega)
          have HCP : Hid (cvP V x y ↔ val V x + val V y ≤ val V (x ||| y) + val V (x &&& y)) := Iff.rfl
          have HF := Lib.hid (HNO.out x y hxN hyx)
          generalize x ||| y = s1 at *
          generalize x &&& y = s2 at *
          have r1 : wr.cell? ⟨bv, ov + s1, none⟩ = some (.int .i64 (val V s1)) := by rw [HWR.out]; exact HCV.out _ l1
          have r2 : wr.cell? ⟨bv, ov + s2, none⟩ = some (.int .i64 (val V s2)) := by rw [HWR.out]; exact HCV.out _ l2
          have r3 : wr.cell? ⟨bv, ov + x, none⟩ = some (.int .i64 (val V x)) := by rw [HWR.out]; exact HCV.out _ hxN
          have r4 : wr.cell? ⟨bv, ov + y, none⟩ = some (.int .i64 (val V y)) := by rw [HWR.out]; exact HCV.out _ (by omega)
          have b1 := HVB.out s1
          have b2 := HVB.out s2
          have b3 := HVB.out x
          have b4 := HVB.out y
          have z1 : (s1 : Int) < (N : Int) := by omega
          have z2 : (s2 : Int) < (N : Int) := by omega
          generalize val V s1 = v1 at *
          generalize val V s2 = v2 at *
          generalize val V x = v3 at *
          generalize val V y = v4 at *
          by_cases q : v3 + v4 ≤ v1 + v2
          · have hq : decide (v1 + v2 < v3 + v4) = false := decide_eq_false (by omega)
            have HN : Hid (∀ q, q < y + 1 → cvP V x q) := fun p hp => by
              by_cases e : p = y
              · subst e; exact HCP.out.2 q
              · exact HY.out p (by omega)
            go_wp2_with fail
            go_quiet (fail)
            go_wp2
            go_roundw
            case rel => exact ⟨y + 1, d + nq, by omega, by go_num, HN, (show Hid _ from by show _ = _; rw [HWR.out, World.drewN_drewN])⟩
            case measure => simp [intOf]; omega
          · have hq : decide (v1 + v2 < v3 + v4) = true := decide_eq_true (by omega)
            obtain rfl : res = false := HF.out (fun h => q (HCP.out.1 h))
            go_wp2_with fail
            go_quiet (fail)
            go_wp2
            go_ret
            exact ⟨rfl, by rw [HWR.out, World.drewN_drewN]; exact below_drewN (Below.refl _ w) _⟩
        · obtain rfl : y = x := by omega
          have HN : Hid (∀ p q, p < y + 1 → q < p → cvP V p q) := fun p q hp hq => by
            by_cases e : p = y
            · subst e; exact HY.out q hq
            · exact HX.out p q (by omega) hq
          go_wp2
          go_roundw
          case rel => exact ⟨y + 1, d, by omega, by go_num, HN, HWR⟩
          case measure => simp [intOf]; omega
    · obtain rfl : x = N := by omega
      obtain rfl : res = true := HYES.out HX.out
      go_wp2
      go_ret
      exact ⟨rfl, by rw [HWR.out]; exact below_drewN (Below.refl _ w) _⟩

def badG (x : Int) : Bool := decide (x < -1000000) || decide (1000000 < x)
set_option maxHeartbeats 400000 in
set_option maxRecDepth 100000 in
theorem worthErr1_any (x : Int) (w : World) : Calls Try.prog 56 #[.int .i64 x] w fun e w' => e = .returned (.bool (badG x)) ∧ Below w.heap.size w w' := by
  by_cases h : x < -1000000
  · have e : badG x = true := by unfold badG; simp [h]
    rw [e]
    clear e
    go_enter Try.func56, Try.ntmps56
    go_wp2
    go_ret
    exact ⟨rfl, Below.refl _ w⟩
  · obtain ⟨r, hr⟩ : ∃ r, decide (1000000 < x) = r := ⟨_, rfl⟩
    have e : badG x = r := by unfold badG; simp [h, hr]
    have E := Lib.hid e
    clear e
    go_enter Try.func56, Try.ntmps56
    go_wp2
    go_ret
    exact ⟨by rw [E.out]; rfl, Below.refl _ w⟩

set_option maxHeartbeats 1000000 in
set_option maxRecDepth 100000 in
theorem worthErr_any (n : Int) (a : Option Addr) (m c : Nat) (V : List Int) (w : World) (hL : LstG w a m c V) :
    Calls Try.prog 18 #[.int .i64 n, .slice a m c] w fun e w' => e = .returned (.int .i64 (gchk n V)) ∧ Below w.heap.size w w' := by
  obtain ⟨hr, hm, hmc⟩ := hL
  have hln : V.length = m := hr.1
  by_cases h1 : n < 1 ∨ 6 < n
  · have e : gchk n V = 1 := by unfold gchk; rw [if_pos h1]
    rw [e]
    clear e hr hln
    rcases h1 with h1 | h1
    · go_enter Try.func18, Try.ntmps18
      go_wp2
      go_ret
      exact ⟨rfl, Below.refl _ w⟩
    · go_enter Try.func18, Try.ntmps18
      go_wp2
      go_ret
      exact ⟨rfl, Below.refl _ w⟩
  · obtain ⟨k, rfl⟩ : ∃ k : Nat, n = k := ⟨n.toNat, by omega⟩
    have k1 : 1 ≤ k := by omega
    have k6 : k ≤ 6 := by omega
    have hpw := gm_pw k6
    obtain ⟨N, hN⟩ : ∃ N, 2 ^ k = N := ⟨_, rfl⟩
    have hN64 : N ≤ 64 := by rw [← hN]; exact pow6 k6
    have hN1 : 1 ≤ N := by rw [← hN]; exact pow1 k
    rw [hN] at hpw
    have e : gchk (k : Int) V = if V.length ≠ N then 3 else if ¬ (∀ x ∈ V, -1000000 ≤ x ∧ x ≤ 1000000) then 1 else if V.getD 0 0 ≠ 0 then 3 else 0 := by unfold gchk; rw [if_neg h1, Int.toNat_natCast, hN]
    clear hN h1
    by_cases h2 : m = N
    · subst h2
      have hne : ((m : Int) != (m : Int)) = false := by simp
      rw [if_neg (by simpa using hln)] at e
      have QC := Lib.hid (containsFuncI_any 56 (fun _ _ => rfl) #[] badG a m c V w w.heap.size (Nat.le_refl _) hr hm (fun x _ w1 _ => worthErr1_any x w1))
      cases hb : V.any badG with
      | true =>
        rw [hb] at QC
        have e1 : gchk (k : Int) V = 1 := by
          rw [e, if_pos]
          intro hall
          rw [List.any_eq_true] at hb
          obtain ⟨x, hx, hbx⟩ := hb
          have := hall x hx
          unfold badG at hbx
          simp at hbx
          omega
        rw [e1]
        clear e e1 hb hr hln
        go_enter Try.func18, Try.ntmps18
        go_wp2_with fail
        refine QC.out.mono ?_
        rintro e w1 ⟨rfl, hb1⟩
        clear QC
        go_wp2
        go_ret
        exact ⟨rfl, hb1⟩
      | false =>
        rw [hb] at QC
        have hall : ∀ x ∈ V, -1000000 ≤ x ∧ x ≤ 1000000 := fun x hx => by
          rw [List.any_eq_false] at hb
          have := hb x hx
          unfold badG at this
          simp at this
          omega
        rw [if_neg (by simpa using hall)] at e
        obtain ⟨bv, ov, rfl, hbv, hcv⟩ := hr.at_ (k := 0) (by omega)
        rw [Nat.add_zero] at hcv
        have E := Lib.hid e
        clear e hall hb hr hln
        generalize gchk (k : Int) V = res at *
        generalize V.getD 0 0 = y at *
        go_enter Try.func18, Try.ntmps18
        go_wp2_with fail
        refine QC.out.mono ?_
        rintro e w1 ⟨rfl, hb1⟩
        have hcv1 := (hb1.cell (p := ⟨bv, ov, none⟩) (by exact hbv)).trans hcv
        clear QC hcv
        by_cases q : y = 0
        · rw [if_neg (by simpa using q)] at E
          obtain rfl : res = 0 := E.out
          subst q
          go_wp2
          go_ret
          exact ⟨rfl, hb1⟩
        · rw [if_pos q] at E
          obtain rfl : res = 3 := E.out
          have qb : (y != 0) = true := by simpa using q
          go_wp2
          go_ret
          exact ⟨rfl, hb1⟩
    · have e1 : gchk (k : Int) V = 3 := by rw [e, if_pos (by omega)]
      rw [e1]
      have hne : ((m : Int) != (N : Int)) = true := by simp; omega
      clear e e1 hr hln
      go_enter Try.func18, Try.ntmps18
      go_wp2
      go_ret
      exact ⟨rfl, Below.refl _ w⟩
end Go.Proofs.Ythcaipnlgbnfkaa

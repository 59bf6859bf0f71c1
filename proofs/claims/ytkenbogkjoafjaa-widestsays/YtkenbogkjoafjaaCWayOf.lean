/-
  plumeref.WayOf at a right table: the strongest path by alternatives that are not yet in the set; it only reads.
-/
import Derived.Test.YtkenbogkjoafjaaPathMath
import Derived.Test.YtkenbogkjoafjaaPureA
import Derived.Test.YtkenbogkjoafjaaOuts
import Derived.BigQuiet
import Derived.Deep.QuietTactic
import Derived.WalkKit
import Derived.KernelRfl
namespace Go.Proofs.Ytkenbogkjoafjaa
open Go.RowKit Fm
set_option linter.unusedVariables false

theorem bitW_at : ∀ s : Nat, s < 64 → ∀ x : Nat, x < 6 → (bits BinOp.and IntKind.i64 ((s : Int) / 2 ^ x) 1 == 0) = !(Nat.testBit s x) := by decide +kernel
theorem orW_at : ∀ s : Nat, s < 64 → ∀ x : Nat, x < 6 → bits BinOp.or IntKind.i64 (s : Int) ((2 : Int) ^ x) = ((s ||| 2 ^ x : Nat) : Int) := by decide +kernel
theorem orW_lt : ∀ s : Nat, s < 64 → ∀ x : Nat, x < 6 → s ||| 2 ^ x < 64 := by decide +kernel
theorem powW_at : ∀ x : Nat, x < 6 → wrap64 ((2 : Int) ^ x) = ((2 ^ x : Nat) : Int) := by decide +kernel

theorem maxW (a b : Int) : (if a < b then b else a) = max a b := by split <;> omega
theorem drewW {w wr : World} {j : Nat} (h : wr = w.drewN j) (k : Nat) : ∃ m, wr.drewN k = w.drewN m := ⟨j + k, by rw [h, World.drewN_drewN]⟩
/-- What one step of the search hands on. -/
def stepG (M : List (List Int)) (x s : Nat) (G : Nat → Int) (k : Nat) : Int := if s.testBit k = false ∧ btB M x k = true then G k else 0

set_option maxHeartbeats 2000000 in
set_option maxRecDepth 100000 in
theorem wayOf_step {n : Nat} {M : List (List Int)} (T : Tab n M) (a : Option Addr) (c B : Nat) (x y s : Nat) (wd : Int) (w : World) (hs : s < 64) (hx : x < n) (hy : y < n) (hr : RdR w B a n M) (G : Nat → Int)
    (hG : ∀ k, k < n → s.testBit k = false → btB M x k = true → ∀ W, RdR W B a n M → Calls Try.prog 23 #[.slice a n c, .int .i64 k, .int .i64 y, .int .i64 ((s ||| 2 ^ k : Nat) : Int), .int .i64 (min wd (ent M x k))] W fun e w' => e = .returned (.int .i64 (G k)) ∧ ∃ m, w' = W.drewN m) (hxy : x ≠ y) :
    Calls Try.prog 23 #[.slice a n c, .int .i64 x, .int .i64 y, .int .i64 s, .int .i64 wd] w fun e w' => e = .returned (.int .i64 (mxTo (stepG M x s G) n)) ∧ ∃ m, w' = w.drewN m := by
  have h6 := T.six
  have HT := Lib.hid T
  have HR := Lib.hid hr
  have HG := Lib.hid hG
  have hne : ((x : Int) == (y : Int)) = false := by simp; omega
  obtain ⟨b, o, rfl, hbB, sq⟩ := rdr_square hr (by omega) T.rows
  have SQ := Lib.hid sq
  obtain ⟨res, hres⟩ : ∃ res, mxTo (stepG M x s G) n = res := ⟨_, rfl⟩
  rw [hres]
  have HRES := Lib.hid hres
  clear hr hG hxy sq hres T
  go_enter Try.func23, Try.ntmps23
  go_wp2_with fail
  go_loopw [11, 19] (fun kv iv wr => ∃ k : Nat, k ≤ n ∧ iv = .int .i64 k ∧ kv = .int .i64 (mxTo (stepG M x s G) k) ∧ ∃ m, wr = w.drewN m) (fun _ iv _ => n - (intOf iv).toNat)
  case atStart => exact ⟨0, Nat.zero_le _, rfl, rfl, 0, rfl⟩
  case round =>
    obtain ⟨k, hk, rfl, rfl, mq, hwr⟩ := hrel
    have HWR := Lib.hid hwr
    have HRW : Hid (RdR wr B (some ⟨b, o, none⟩) n M) := by rw [hwr]; exact HR.out.drewN mq
    have SQW : Hid (Sq wr B b o n M) := by rw [hwr]; exact SQ.out
    clear hwr
    by_cases hkn : k < n
    · have hbit := bitW_at s hs k (by omega)
      have HS : Hid (mxTo (stepG M x s G) (k + 1) = max (mxTo (stepG M x s G) k) (stepG M x s G k)) := rfl
      have h0 := mxTo_nonneg (stepG M x s G) k
      have HGK : Hid (stepG M x s G k = if s.testBit k = false ∧ btB M x k = true then G k else 0) := rfl
      have HGC := Lib.hid (HG.out k hkn)
      generalize mxTo (stepG M x s G) k = mk at *
      generalize stepG M x s G k = gk at *
      cases htb : s.testBit k with
      | true =>
        rw [htb] at hbit HGK
        rw [if_neg (fun h => by cases h.1)] at HGK
        have HN : Hid (mxTo (stepG M x s G) (k + 1) = mk) := by show _ = _; rw [HS.out, HGK.out]; omega
        have hbit' : (bits BinOp.and IntKind.i64 ((s : Int) / 2 ^ k) 1 == 0) = false := hbit
        clear hbit HGK HS htb
        go_wp2_with fail
        go_quiet (fail)
        go_wp2
        go_roundw
        case rel => exact ⟨k + 1, by omega, by go_num, by rw [HN.out], drewW HWR.out _⟩
        case measure => simp [intOf]; omega
      | false =>
        rw [htb] at hbit HGK
        have hbit' : (bits BinOp.and IntKind.i64 ((s : Int) / 2 ^ k) 1 == 0) = true := hbit
        obtain ⟨bx, ox, cx, c1, hbx, _, _, c2⟩ := SQW.out x hx
        obtain ⟨bk, ok, ck, c3, hbk, _, _, c4⟩ := SQW.out k hkn
        have c5 := c2 k hkn
        have c6 := c4 x hx
        have HBT : Hid (btB M x k = decide (ent M k x < ent M x k)) := rfl
        have HGC2 := Lib.hid (HGC.out htb)
        clear hbit c2 c4 HGC
        have hor := orW_at s hs k (by omega)
        have hpw := powW_at k (by omega)
        generalize btB M x k = bt at *
        generalize ent M x k = exk at *
        generalize ent M k x = ekx at *
        by_cases hlt : ekx < exk
        · obtain rfl : bt = true := by rw [HBT.out]; exact decide_eq_true hlt
          rw [if_pos ⟨rfl, rfl⟩] at HGK
          have HN : Hid (mxTo (stepG M x s G) (k + 1) = max mk (G k)) := by show _ = _; rw [HS.out, HGK.out]
          have hmin : min wd exk = if exk < wd then exk else wd := by split <;> omega
          have QC := Lib.hid (HGC2.out rfl)
          rw [hmin, ← hor] at QC
          clear HGK HS htb HGC2 HBT hmin hor
          generalize G k = Gk at *
          go_wp2_with fail
          go_quiet (fail)
          go_wp2_with fail
          obtain ⟨W2, hW2⟩ : ∃ W, W = wr.drewN nq := ⟨_, rfl⟩
          have d1 : W2.cell? ⟨b, o + x, none⟩ = some (.slice (some ⟨bx, ox, none⟩) n cx) := by rw [hW2]; exact c1
          have d5 : W2.cell? ⟨bx, ox + k, none⟩ = some (.int .i64 exk) := by rw [hW2]; exact c5
          have HRW2 : Hid (RdR W2 B (some ⟨b, o, none⟩) n M) := by rw [hW2]; exact HRW.out.drewN _
          have HWR2 : Hid (∃ j, W2 = w.drewN j) := by rw [hW2]; exact drewW HWR.out nq
          rw [← hW2]
          clear hW2 c1 c5 c3 c6 HRW HWR SQW
          obtain ⟨j2, hj2⟩ := HWR2.out
          have HJ2 := Lib.hid hj2
          clear hj2 HWR2
          go_quiet ((go_at_call 23; exact Calls.quiet_of (QC.out _ (HRW2.out.drewN _))))
          go_wp2
          go_roundw
          case rel => exact ⟨k + 1, by omega, by go_num, by rw [HN.out]; first | rw [← maxW] | (congr 1; split <;> omega), drewW HJ2.out _⟩
          case measure => simp [intOf]; omega
        · obtain rfl : bt = false := by rw [HBT.out]; exact decide_eq_false hlt
          rw [if_neg (fun h => by cases h.2)] at HGK
          have HN : Hid (mxTo (stepG M x s G) (k + 1) = mk) := by show _ = _; rw [HS.out, HGK.out]; omega
          clear HGK HS htb HGC2 HBT
          go_wp2_with fail
          go_quiet (fail)
          go_wp2
          go_roundw
          case rel => exact ⟨k + 1, by omega, by go_num, by rw [HN.out], drewW HWR.out _⟩
          case measure => simp [intOf]; omega
    · obtain rfl : k = n := by omega
      rw [HRES.out]
      go_wp2
      go_ret
      exact ⟨rfl, mq, HWR.out⟩

set_option maxHeartbeats 400000 in
set_option maxRecDepth 100000 in
theorem wayOf_same {n : Nat} (a : Option Addr) (c : Nat) (x s : Nat) (wd : Int) (w : World) :
    Calls Try.prog 23 #[.slice a n c, .int .i64 x, .int .i64 x, .int .i64 s, .int .i64 wd] w fun e w' => e = .returned (.int .i64 wd) ∧ ∃ m, w' = w.drewN m := by
  have hne : ((x : Int) == (x : Int)) = true := by simp
  go_enter Try.func23, Try.ntmps23
  go_wp2
  go_ret
  exact ⟨rfl, 0, rfl⟩

theorem wayOf_any {n : Nat} {M : List (List Int)} (T : Tab n M) (a : Option Addr) (c B : Nat) : ∀ (f x y s : Nat) (wd : Int) (w : World), freeN n s ≤ f → s < 64 → x < n → y < n → RdR w B a n M →
    Calls Try.prog 23 #[.slice a n c, .int .i64 x, .int .i64 y, .int .i64 s, .int .i64 wd] w fun e w' => e = .returned (.int .i64 (wayF n M f x y s wd)) ∧ ∃ m, w' = w.drewN m := by
  intro f
  induction f with
  | zero =>
    intro x y s wd w hf hs hx hy hr
    rw [wayF]
    by_cases hxy : x = y
    · subst hxy; rw [if_pos rfl]; exact wayOf_same a c x s wd w
    · rw [if_neg hxy]
      have e : mxTo (stepG M x s (fun _ => 0)) n = 0 := by
        have := mxTo_nonneg (stepG M x s (fun _ => 0)) n
        have := mxTo_le (g := stepG M x s (fun _ => 0)) (Int.le_refl 0) n (fun k _ => by unfold stepG; split <;> exact Int.le_refl _)
        omega
      have h := wayOf_step T a c B x y s wd w hs hx hy hr (fun _ => 0) (fun k hk hb => by have := freeN_or hk hb; omega) hxy
      rw [e] at h
      exact h
  | succ f ih =>
    intro x y s wd w hf hs hx hy hr
    rw [wayF]
    by_cases hxy : x = y
    · subst hxy; rw [if_pos rfl]; exact wayOf_same a c x s wd w
    · rw [if_neg hxy]
      exact wayOf_step T a c B x y s wd w hs hx hy hr (fun k => wayF n M f k y (s ||| 2 ^ k) (min wd (ent M x k))) (fun k hk hb _ W hW => by
        have := freeN_or hk hb
        exact ih k y _ _ W (by omega) (orW_lt s hs k (by have := T.six; omega)) hk hy hW) hxy
end Go.Proofs.Ytkenbogkjoafjaa

/-
  Package seats: greatestQuotient and firstGreatest; nothing is written.
-/
import Derived.Test.YtedllchlhdjanaaSeatP
import Derived.BigQuiet
import Derived.Deep.QuietTactic
namespace Go.Proofs.Ytedllchlhdjanaa
open Go.RowKit Fm
set_option linter.unusedVariables false

theorem pickTo_nx (x d : Nat → Nat) (k : Nat) : pickTo x d k = if flt (x (pickTo x d (k - 1))) (d (pickTo x d (k - 1))) (x k) (d k) then k else pickTo x d (k - 1) := by
  cases k with
  | zero => rw [pickTo]; simp
  | succ k => rw [Nat.add_sub_cancel, pickTo]

set_option maxHeartbeats 1000000 in
set_option maxRecDepth 100000 in
theorem grQ_any {n : Nat} (h1 : 1 ≤ n) (h8 : n ≤ 8) (x s : Nat → Nat) (P S : List Int) (st : Nat) (hst : st ≤ 2) (hx : ∀ i, i < n → P.getD i 0 = (x i : Int) ∧ x i ≤ 1000000) (hs : ∀ i, i < n → S.getD i 0 = (s i : Int) ∧ s i ≤ 100)
    (a aS : Option Addr) (c cs : Nat) (w : World) (B : Nat) (hr : Rd w B a n P) (hrs : Rd w B aS n S) :
    Calls Try.prog 30 #[.slice a n c, .slice aS n cs, .int .i64 st] w fun e w' => e = .returned (.int .i64 (pickTo x (fun i => st * s i + 1) (n - 1) : Nat)) ∧ ∃ k, w' = w.drewN k := by
  obtain ⟨b, o, rfl, hb, hc⟩ := hr.2 (by omega)
  obtain ⟨bs, os, rfl, hbs, hcs⟩ := hrs.2 (by omega)
  have HX : Hid (∀ i, i < n → w.cell? ⟨b, o + i, none⟩ = some (.int .i64 (x i : Int)) ∧ x i ≤ 1000000) := fun i hi => by rw [← (hx i hi).1]; exact ⟨hc i hi, (hx i hi).2⟩
  have HS : Hid (∀ i, i < n → w.cell? ⟨bs, os + i, none⟩ = some (.int .i64 (s i : Int)) ∧ s i ≤ 100) := fun i hi => by rw [← (hs i hi).1]; exact ⟨hcs i hi, (hs i hi).2⟩
  have HNX : Hid (∀ k, pickTo x (fun i => st * s i + 1) k = if x (pickTo x (fun i => st * s i + 1) (k - 1)) * (st * s k + 1) < x k * (st * s (pickTo x (fun i => st * s i + 1) (k - 1)) + 1) then k else pickTo x (fun i => st * s i + 1) (k - 1)) := fun k => pickTo_nx x (fun i => st * s i + 1) k
  have HLE : Hid (∀ k, pickTo x (fun i => st * s i + 1) k ≤ k) := pickTo_le x _
  obtain ⟨F, hF⟩ : ∃ F : Nat → Nat, F = pickTo x (fun i => st * s i + 1) := ⟨_, rfl⟩
  have hF0 : F 0 = 0 := by rw [hF]; rfl
  have HF0 := Lib.hid hF0
  rw [← hF] at HNX HLE ⊢
  clear hr hrs hx hs hc hcs hF hF0
  go_enter Try.func30, Try.ntmps30
  go_wp2_with fail
  go_loopw [7, 11] (fun bv iv wr => ∃ k : Nat, k ≤ n ∧ iv = .int .i64 k ∧ bv = .int .i64 ((F (k - 1) : Nat) : Int) ∧ ∃ d, wr = w.drewN d) (fun _ iv _ => n - (intOf iv).toNat)
  case atStart => exact ⟨0, Nat.zero_le _, rfl, by rw [HF0.out]; rfl, 0, rfl⟩
  case round =>
    obtain ⟨k, hk, rfl, rfl, d, hwr⟩ := hrel
    have HWR := Lib.hid hwr
    by_cases hkn : k < n
    · have hp := HLE.out (k - 1)
      have hpn : F (k - 1) < n := by omega
      have hnx := HNX.out k
      obtain ⟨r1, b1⟩ := HX.out k hkn
      obtain ⟨r2, b2⟩ := HX.out _ hpn
      obtain ⟨r3, b3⟩ := HS.out k hkn
      obtain ⟨r4, b4⟩ := HS.out _ hpn
      have R1 : wr.cell? ⟨b, o + k, none⟩ = some (.int .i64 (x k : Int)) := by rw [hwr]; exact r1
      have R2 : wr.cell? ⟨b, o + F (k - 1), none⟩ = some (.int .i64 (x (F (k - 1)) : Int)) := by rw [hwr]; exact r2
      have R3 : wr.cell? ⟨bs, os + k, none⟩ = some (.int .i64 (s k : Int)) := by rw [hwr]; exact r3
      have R4 : wr.cell? ⟨bs, os + F (k - 1), none⟩ = some (.int .i64 (s (F (k - 1)) : Int)) := by rw [hwr]; exact r4
      clear r1 r2 r3 r4 hwr hp
      have HND : Hid (∀ v, F k = v → F (k + 1 - 1) = v) := fun v hv => by rw [Nat.add_sub_cancel]; exact hv
      generalize F (k - 1) = p at *
      generalize x k = xk at *
      generalize x p = xp at *
      generalize s k = sk at *
      generalize s p = sp at *
      have m1 : st * sk ≤ 200 := Nat.le_trans (Nat.mul_le_mul hst b3) (by omega)
      have m2 : st * sp ≤ 200 := Nat.le_trans (Nat.mul_le_mul hst b4) (by omega)
      have e1 : (st : Int) * (sk : Int) = ((st * sk : Nat) : Int) := by simp
      have e2 : (st : Int) * (sp : Int) = ((st * sp : Nat) : Int) := by simp
      generalize st * sk = u at *
      generalize st * sp = v at *
      have m3 : xp * (u + 1) ≤ 201000000 := Nat.le_trans (Nat.mul_le_mul b2 (show u + 1 ≤ 201 by omega)) (by omega)
      have m4 : xk * (v + 1) ≤ 201000000 := Nat.le_trans (Nat.mul_le_mul b1 (show v + 1 ≤ 201 by omega)) (by omega)
      have e3 : (xp : Int) * ((u : Int) + 1) = ((xp * (u + 1) : Nat) : Int) := by simp
      have e4 : (xk : Int) * ((v : Int) + 1) = ((xk * (v + 1) : Nat) : Int) := by simp
      generalize xp * (u + 1) = U at *
      generalize xk * (v + 1) = V at *
      by_cases q : U < V
      · rw [if_pos q] at hnx
        have hq : decide (U < V) = true := decide_eq_true q
        have HN := Lib.hid (HND.out _ hnx)
        clear hnx HND
        go_wp2_with fail
        go_quiet (fail)
        go_wp2
        go_roundw
        case rel => exact ⟨k + 1, by omega, by go_num, by rw [HN.out], _, by rw [HWR.out, World.drewN_drewN]⟩
        case measure => simp [intOf]; omega
      · rw [if_neg q] at hnx
        have hq : decide (U < V) = false := decide_eq_false q
        have HN := Lib.hid (HND.out _ hnx)
        clear hnx HND
        go_wp2_with fail
        go_quiet (fail)
        go_wp2
        go_roundw
        case rel => exact ⟨k + 1, by omega, by go_num, by rw [HN.out], _, by rw [HWR.out, World.drewN_drewN]⟩
        case measure => simp [intOf]; omega
    · obtain rfl : k = n := by omega
      go_wp2
      go_ret
      exact ⟨rfl, d, rfl⟩

set_option maxHeartbeats 1000000 in
set_option maxRecDepth 100000 in
theorem firstG_any {n : Nat} (h1 : 1 ≤ n) (h8 : n ≤ 8) (y : Nat → Nat) (L : List Int) (hy : ∀ i, i < n → L.getD i 0 = (y i : Int) - 1)
    (a : Option Addr) (c : Nat) (w : World) (B : Nat) (hr : Rd w B a n L) :
    Calls Try.prog 31 #[.slice a n c] w fun e w' => e = .returned (.int .i64 (pickTo y (fun _ => 1) (n - 1) : Nat)) ∧ w = w' := by
  obtain ⟨b, o, rfl, hb, hc⟩ := hr.2 (by omega)
  have HX : Hid (∀ i, i < n → w.cell? ⟨b, o + i, none⟩ = some (.int .i64 ((y i : Int) - 1))) := fun i hi => by rw [← hy i hi]; exact hc i hi
  have HNX : Hid (∀ k, pickTo y (fun _ => 1) k = if y (pickTo y (fun _ => 1) (k - 1)) < y k then k else pickTo y (fun _ => 1) (k - 1)) := fun k => by
    have := pickTo_nx y (fun _ => 1) k
    unfold flt at this
    simpa using this
  have HLE : Hid (∀ k, pickTo y (fun _ => 1) k ≤ k) := pickTo_le y _
  obtain ⟨F, hF⟩ : ∃ F : Nat → Nat, F = pickTo y (fun _ => 1) := ⟨_, rfl⟩
  have hF0 : F 0 = 0 := by rw [hF]; rfl
  have HF0 := Lib.hid hF0
  rw [← hF] at HNX HLE ⊢
  clear hr hy hc hF hF0
  go_enter Try.func31, Try.ntmps31
  go_wp2_with fail
  go_loop [3, 8] (fun bv iv => ∃ k : Nat, k ≤ n ∧ iv = .int .i64 k ∧ bv = .int .i64 ((F (k - 1) : Nat) : Int)) (fun _ iv => n - (intOf iv).toNat)
  case atStart => exact ⟨0, Nat.zero_le _, rfl, by rw [HF0.out]; rfl⟩
  case round =>
    obtain ⟨k, hk, rfl, rfl⟩ := hrel
    by_cases hkn : k < n
    · have hp := HLE.out (k - 1)
      have hpn : F (k - 1) < n := by omega
      have hnx := HNX.out k
      have r1 := HX.out k hkn
      have r2 := HX.out _ hpn
      have HND : Hid (∀ v, F k = v → F (k + 1 - 1) = v) := fun v hv => by rw [Nat.add_sub_cancel]; exact hv
      clear hp
      generalize F (k - 1) = p at *
      by_cases q : y p < y k
      · rw [if_pos q] at hnx
        have HN := Lib.hid (HND.out _ hnx)
        have q1 : ((y p : Int) - 1) < ((y k : Int) - 1) := by omega
        generalize (y p : Int) - 1 = yp at *
        generalize (y k : Int) - 1 = yk at *
        clear hnx HND q
        go_wp2
        go_round
        case rel => exact ⟨k + 1, by omega, by go_num, by rw [HN.out]⟩
        case measure => simp [intOf]; omega
      · rw [if_neg q] at hnx
        have HN := Lib.hid (HND.out _ hnx)
        have q1 : ¬ ((y p : Int) - 1) < ((y k : Int) - 1) := by omega
        generalize (y p : Int) - 1 = yp at *
        generalize (y k : Int) - 1 = yk at *
        clear hnx HND q
        go_wp2
        go_round
        case rel => exact ⟨k + 1, by omega, by go_num, by rw [HN.out]⟩
        case measure => simp [intOf]; omega
    · obtain rfl : k = n := by omega
      go_wp2
      go_ret
      exact ⟨rfl, rfl⟩
end Go.Proofs.Ytedllchlhdjanaa

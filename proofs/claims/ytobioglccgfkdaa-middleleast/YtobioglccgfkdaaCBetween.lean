/-
  plumeref.Between at orders: what it returns; nothing that was there is written.
-/
import Derived.Test.YtobioglccgfkdaaCPlaces
import Derived.BigQuiet
import Derived.Deep.QuietTactic
import Derived.WalkKit
import Derived.KernelRfl
import Derived.Laws.NewBlocks
namespace Go.Proofs.Ytobioglccgfkdaa
open Go.RowKit Fm
set_option linter.unusedVariables false

set_option maxHeartbeats 2000000 in
set_option maxRecDepth 100000 in
theorem between_any {n : Nat} {p q : List Int} (hp : p.Perm (sides n)) (hq : q.Perm (sides n)) (h1 : 1 ≤ n) (h6 : n ≤ 6) (a a2 : Option Addr) (c c2 : Nat) (w : World) (B : Nat) (hB : B ≤ w.heap.size) (rp : Rd w B a n p) (rq : Rd w B a2 n q) :
    Calls Try.prog 36 #[.slice a n c, .slice a2 n c2] w fun e w' => e = .returned (.int .i64 (inv p q)) ∧ Below w.heap.size w w' := by
  rw [← btw_inv hp hq]
  go_enter Try.func36, Try.ntmps36
  go_wp2_with fail
  refine (places2_any hp h1 h6 a c w B hB rp).mono ?_
  rintro e w1 ⟨rfl, o1, hb1⟩
  have z1 := hb1.size
  go_wp2_with fail
  refine (places2_any hq h1 h6 a2 c2 w1 B (by omega) (rq.below hb1 hB)).mono ?_
  rintro e w2 ⟨rfl, o2, hb2⟩
  have z2 := hb2.size
  have o3 := own_below o1 hb2 (Nat.le_refl _)
  have hb3 := hb1.trans (hb2.mono z1)
  have HA : Hid (∀ j, j < n → w2.cell? ⟨w.heap.size, j, none⟩ = some (.int .i64 (pos p j))) := fun j hj => by
    rw [own_cell o3 j hj, getD_get (by simp [sides_len]; exact hj), List.getElem_map, ← getD_get (by rw [sides_len]; exact hj), sides_getD hj]
  have HBc : Hid (∀ j, j < n → w2.cell? ⟨w1.heap.size, j, none⟩ = some (.int .i64 (pos q j))) := fun j hj => by
    rw [own_cell o2 j hj, getD_get (by simp [sides_len]; exact hj), List.getElem_map, ← getD_get (by rw [sides_len]; exact hj), sides_getD hj]
  clear o1 o2 o3 hb1 hb2 rp rq hp hq
  generalize hf : pos p = f at *
  generalize hg : pos q = g at *
  have HF := Lib.hid hf
  have HG := Lib.hid hg
  clear hf hg
  go_wp2_with fail
  go_loopw [7, 16] (fun s7 s16 wr => ∃ k m : Nat, k ≤ n ∧ s16 = .int .i64 k ∧ s7 = .int .i64 (btw f g k) ∧ wr = w2.drewN m) (fun _ s16 _ => n - (intOf s16).toNat)
  case atStart => exact ⟨0, 0, Nat.zero_le _, rfl, rfl, rfl⟩
  case round =>
    obtain ⟨k, m, hk, rfl, rfl, rfl⟩ := hrel
    by_cases hlt : k < n
    · have HS : Hid (btw f g (k + 1) = btw f g k + difs f g k (sides k)) := rfl
      have hbk := btw_bound (f := f) (g := g) hk h6
      have ca := HA.out k hlt
      have cb := HBc.out k hlt
      have bk : (k : Int) < (n : Int) := by omega
      generalize btw f g k = s at *
      go_wp2_with fail
      go_loopw [7, 20] (fun s7 s20 wr => ∃ j m' : Nat, j ≤ k ∧ s20 = .int .i64 j ∧ s7 = .int .i64 ((s : Int) + (difs f g k (sides j) : Nat)) ∧ wr = w2.drewN m') (fun _ s20 _ => k - (intOf s20).toNat)
      case atStart => exact ⟨0, m, Nat.zero_le _, rfl, by simp [difs, sides], rfl⟩
      case round =>
        obtain ⟨j, m', hj, rfl, rfl, rfl⟩ := hrel
        by_cases hjl : j < k
        · have ca2 := HA.out j (by omega)
          have cb2 := HBc.out j (by omega)
          have bj : (j : Int) < (n : Int) := by omega
          have HN : Hid (difs f g k (sides (j + 1)) = difs f g k (sides j) + if (decide (f k < f j) != decide (g k < g j)) = true then 1 else 0) := by show _ = _; rw [sides_succ, difs_snoc]
          have hdl := difs_le f g k (sides j)
          rw [sides_len] at hdl
          generalize difs f g k (sides j) = t at *
          by_cases hfa : f k < f j
          · by_cases hga : g k < g j
            · have e0 : difs f g k (sides (j + 1)) = t := by rw [HN.out, if_neg (by simp [hfa, hga])]; omega
              have HE := Lib.hid e0
              clear e0
              go_wp2_with fail
              go_quiet (fail)
              go_wp2
              go_roundw
              case rel => exact ⟨j + 1, _, by omega, by go_num, by rw [HE.out], rfl⟩
              case measure => simp [intOf]; omega
            · have hgd : decide (g k < g j) = false := by simpa using hga
              have e0 : difs f g k (sides (j + 1)) = t + 1 := by rw [HN.out, if_pos (by simp [hfa]; omega)]
              have HE := Lib.hid e0
              clear e0
              go_wp2_with fail
              go_quiet (fail)
              go_wp2
              go_roundw
              case rel => exact ⟨j + 1, _, by omega, by go_num, by rw [HE.out]; go_num, rfl⟩
              case measure => simp [intOf]; omega
          · have hfd : decide (f k < f j) = false := by simpa using hfa
            by_cases hga : g k < g j
            · have e0 : difs f g k (sides (j + 1)) = t + 1 := by rw [HN.out, if_pos (by simp [hga]; omega)]
              have HE := Lib.hid e0
              clear e0
              go_wp2_with fail
              go_quiet (fail)
              go_wp2
              go_roundw
              case rel => exact ⟨j + 1, _, by omega, by go_num, by rw [HE.out]; go_num, rfl⟩
              case measure => simp [intOf]; omega
            · have hgd : decide (g k < g j) = false := by simpa using hga
              have e0 : difs f g k (sides (j + 1)) = t := by rw [HN.out, if_neg (by simp [hfd, hgd])]; omega
              have HE := Lib.hid e0
              clear e0
              go_wp2_with fail
              go_quiet (fail)
              go_wp2
              go_roundw
              case rel => exact ⟨j + 1, _, by omega, by go_num, by rw [HE.out], rfl⟩
              case measure => simp [intOf]; omega
        · obtain rfl : j = k := by omega
          go_wp2
          go_roundw
          case rel => exact ⟨j + 1, _, by omega, by go_num, by rw [HS.out]; go_num, rfl⟩
          case measure => simp [intOf]; omega
    · obtain rfl : k = n := by omega
      go_wp2
      go_ret
      exact ⟨by rw [HF.out, HG.out]; rfl, below_drewN hb3 m⟩
end Go.Proofs.Ytobioglccgfkdaa

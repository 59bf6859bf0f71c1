/-
  plumeref.Greatest returns the places of the greatest, in a row of its own; nothing that was there is written.
-/
import Derived.Test.YtbpenheomiejfaaCContains
import Derived.Test.YtbpenheomiejfaaPush
import Derived.Test.YtbpenheomiejfaaPureB
namespace Go.Proofs.Ytbpenheomiejfaa
open Go.RowKit Fm
set_option linter.unusedVariables false

set_option maxHeartbeats 400000 in
set_option maxRecDepth 100000 in
theorem greatest_any (l : List Int) (a : Option Addr) (n c : Nat) (w : World) (B : Nat) (hB : B ≤ w.heap.size) (h0 : 0 < n) (hn : n ≤ 1000) (hr : Rd w B a n l) :
    Calls Try.prog 52 #[.slice a n c] w fun e w' => ∃ v, e = .returned v ∧ w'.ownsRow w.heap.size 3 1 v (greatest l).length (I (greatest l)) ∧ Below w.heap.size w w' := by
  have HL := Lib.hid hr.1
  obtain ⟨b, o, rfl, hb, hc⟩ := hr.2 h0
  have HC := Lib.hid hc
  have HR := Lib.hid hr
  clear hc hr
  go_enter Try.func52, Try.ntmps52
  go_wp2_with fail
  refine (max_any l (some ⟨b, o, none⟩) n c w B h0 HR.out (by omega)).mono ?_
  rintro e w' ⟨rfl, rfl⟩
  have hmx : Lib.maxOf l = most l := rfl
  rw [hmx]
  clear hmx
  obtain ⟨mx, hmx⟩ : ∃ mx, most l = mx := ⟨_, rfl⟩
  rw [hmx]
  have HMX := Lib.hid hmx
  clear hmx
  go_wp2_with fail
  go_loopw [4, 11] (fun v iv wr => ∃ k : Nat, k ≤ n ∧ iv = .int .i64 k ∧ wr.ownsRow w.heap.size 3 1 v (greatTo l k).length (I (greatTo l k)) ∧ Below w.heap.size w wr) (fun _ iv _ => n - (intOf iv).toNat)
  case atStart => exact ⟨0, Nat.zero_le _, rfl, World.ownsRow_nil _ _ _ _, Below.refl _ w⟩
  case round =>
    obtain ⟨k, hk, rfl, own, hbel⟩ := hrel
    have hz := hbel.size
    by_cases hkn : k < n
    · have ck : wr.cell? ⟨b, o + k, none⟩ = some (.int .i64 (l.getD k 0)) := (hbel.cell (by show b < _; omega)).trans (HC.out k hkn)
      have hgl := greatTo_len l k
      have hgs := greatTo_succ l k
      rw [HMX.out] at hgs
      by_cases he : l.getD k 0 = mx
      · rw [if_pos he] at hgs
        have HGS := Lib.hid hgs
        have heb : (l.getD k 0 == mx) = true := by simpa using he
        clear hgs he
        generalize l.getD k 0 = x at *
        generalize greatTo l k = gk at *
        go_wp2_with (at_builtin; go_must (refine push1 rfl _ _ rfl wr w.heap.size _ gk.length gk k rfl rfl (by exact own) hz (by omega) ?_))
        intro g cap w1 own1 hgr _ _
        have hb1 : Below w.heap.size w w1 := hbel.grown hgr hz (own_not own)
        have e1 : gk.length + 1 = (greatTo l (k + 1)).length := by rw [HGS.out]; simp
        rw [← HGS.out, e1] at own1
        rw [e1]
        clear hgr own hbel e1 ck
        go_wp2
        go_roundw
        case rel => exact ⟨k + 1, by omega, by go_num, own1, hb1⟩
        case measure => simp [intOf]; omega
      · rw [if_neg he, List.append_nil] at hgs
        have heb : (l.getD k 0 == mx) = false := by simpa using he
        rw [← hgs] at own
        clear hgs he
        generalize l.getD k 0 = x at *
        go_wp2
        go_roundw
        case rel => exact ⟨k + 1, by omega, by go_num, own, hbel⟩
        case measure => simp [intOf]; omega
    · obtain rfl : k = n := by omega
      have e : greatTo l k = greatest l := by unfold greatest; rw [HL.out]
      rw [e] at own
      go_wp2
      go_ret
      exact ⟨_, rfl, own, hbel⟩
end Go.Proofs.Ytbpenheomiejfaa

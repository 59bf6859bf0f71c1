/-
  plumeref.Columns at a right table: the columns, in rows of its own; nothing that was there is written.
-/
import Derived.Test.YtimjepakdldacaaSqPay
import Derived.Test.YtimjepakdldacaaPairs
import Derived.Test.YtimjepakdldacaaPushS
import Derived.Test.YtimjepakdldacaaPush
namespace Go.Proofs.Ytimjepakdldacaa
open Go.RowKit Fm
set_option linter.unusedVariables false

theorem colsM_next (k : Nat) (M : List (List Int)) : colsM (k + 1) M = colsM k M ++ [colL M k] := by unfold colsM; rw [List.range_succ, List.map_append]; rfl
theorem colL_take (M : List (List Int)) (y : Nat) {x : Nat} (hx : x < M.length) : (colL M y).take (x + 1) = (colL M y).take x ++ [ent M x y] := by
  rw [← colL_at y hx]
  have hl : x < (colL M y).length := by rw [colL_len]; exact hx
  rw [List.take_succ_eq_append_getElem hl, getD_get hl]
def ColsOut (k : Nat) (M : List (List Int)) (w : World) (e : Ending) (w' : World) : Prop := ∃ v, e = .returned v ∧ Mat w' w.heap.size 27 3 v (colsM k M) ∧ Below w.heap.size w w'

set_option maxHeartbeats 2000000 in
set_option maxRecDepth 100000 in
theorem columns_any {r k : Nat} {M : List (List Int)} (p : Pay r k M) (a : Option Addr) (n c : Nat) (w : World) (hr : RdR w w.heap.size a n M) :
    Calls Try.prog 35 #[.slice a n c] w (ColsOut k M w) := by
  obtain ⟨rfl, b, o, rfl, hb, hsq⟩ := rdr_sqP hr p
  have HSQ := Lib.hid hsq
  have HP := Lib.hid p
  have r1 := p.r1
  have r6 := p.r6
  have k1 := p.k1
  have k6 := p.k6
  have HLM := Lib.hid p.len
  obtain ⟨b0, o0, c0, hb0, hc0, _, _, _⟩ := hsq 0 r1
  rw [Nat.add_zero] at hc0
  have hn0 : (0 : Int) < (n : Int) := by omega
  have HE : Hid (ColsOut k M w = fun e w' => ∃ v, e = .returned v ∧ Mat w' w.heap.size 27 3 v (colsM k M) ∧ Below w.heap.size w w') := rfl
  rw [HE.out]
  clear hr hsq p HE
  go_enter Try.func35, Try.ntmps35
  go_wp2_with fail
  go_loopw [3, 12] (fun ov yv wr => ∃ y : Nat, y ≤ k ∧ yv = .int .i64 y ∧ Mat wr w.heap.size 27 3 ov (colsM y M) ∧ Below w.heap.size w wr) (fun _ yv _ => k - (intOf yv).toNat)
  case atStart => exact ⟨0, Nat.zero_le _, rfl, ⟨[], World.ownsRow_nil _ _ _ _, Elems.nil_, fun i j u v hu => by simp at hu⟩, Below.refl _ w⟩
  case round =>
    obtain ⟨y, hy, rfl, hmat, hbel⟩ := hrel
    have HMAT := Lib.hid hmat
    clear hmat
    by_cases hyk : y < k
    · have hz := hbel.size
      have HS2 := Lib.hid (HSQ.out.below hbel (Nat.le_refl _) hb)
      obtain ⟨wo, hwo⟩ : ∃ wo, wo = wr := ⟨_, rfl⟩
      rw [← hwo] at HMAT hbel hz
      have hb0 : Below wo.heap.size wo wr := by rw [hwo]; exact Below.refl _ _
      have HB0 := Lib.hid hb0
      have hco : wo.cell? ⟨b, o, none⟩ = some (.slice (some ⟨b0, o0, none⟩) k c0) := (hbel.cell (by exact hb)).trans hc0
      have HSO : Hid (SqP wo w.heap.size b o n k M) := by rw [hwo]; exact HS2.out
      clear hwo hb0 HS2
      go_wp2_with fail
      go_loopw [5, 17] (fun cv xv wr => ∃ x : Nat, x ≤ n ∧ xv = .int .i64 x ∧ wr.ownsRow wo.heap.size 3 1 cv x (I ((colL M y).take x)) ∧ Below wo.heap.size wo wr) (fun _ xv _ => n - (intOf xv).toNat)
      case atStart => exact ⟨0, Nat.zero_le _, rfl, World.ownsRow_nil _ _ _ _, HB0.out⟩
      case round =>
        obtain ⟨x, hx, rfl, hown, hbel2⟩ := hrel
        clear HB0
        by_cases hxn : x < n
        · obtain ⟨b', o', c', hb', hcell, _, _, hent⟩ := HSO.out x hxn
          have hce := hent y hyk
          have q1 : wr.cell? ⟨b, o + x, none⟩ = some (.slice (some ⟨b', o', none⟩) k c') := (hbel2.cell (by show b < _; omega)).trans hcell
          have q2 : wr.cell? ⟨b', o' + y, none⟩ = some (.int .i64 (ent M x y)) := (hbel2.cell (by show b' < _; omega)).trans hce
          have HNX := Lib.hid (colL_take M y (x := x) (by rw [HLM.out]; exact hxn))
          have hln : ((colL M y).take x).length = x := by rw [List.length_take, colL_len, HLM.out]; omega
          have hz2 := hbel2.size
          clear hcell hce hent
          generalize ent M x y = z at *
          generalize (colL M y).take x = cl at *
          go_wp2_with (at_builtin; go_must (refine push1 rfl _ _ rfl wr wo.heap.size _ x cl z rfl rfl (by exact hown) hz2 (by omega) ?_))
          intro g cap w1 own1 hgr _ _
          have hb1 : Below wo.heap.size wo w1 := hbel2.grown hgr hz2 (own_not hown)
          rw [← HNX.out] at own1
          clear hgr hown hbel2 HNX
          go_wp2
          go_roundw
          case rel => exact ⟨x + 1, by omega, by go_num, own1, hb1⟩
          case measure => simp [intOf]; omega
        · obtain rfl : x = n := by omega
          have hlc : (colL M y).length = x := by rw [colL_len, HLM.out]
          rw [List.take_of_length_le (by omega)] at hown
          obtain ⟨vs, h1, h2, h3⟩ := HMAT.out
          have hlen : (colsM y M).length = y := colsM_len y M
          obtain ⟨ca, cc, rfl, _, _⟩ := own_slice hown
          have h1' := own_below h1 hbel2 (Nat.le_refl _)
          rw [hlen] at h1'
          have hz2 := hbel2.size
          have HNX := Lib.hid (colsM_next y M)
          have HH := Lib.hid (show _ ∧ _ ∧ _ from ⟨h1, h2, h3⟩)
          have HHL := Lib.hid hlen
          have HOW := Lib.hid hown
          have HLC := Lib.hid hlc
          clear h1 h2 h3 hlen hown hlc HMAT
          go_wp2_with (at_builtin; go_must (refine pushS rfl _ _ rfl wr w.heap.size _ y vs ca x cc rfl rfl (by exact h1') (by omega) (by omega) ?_))
          intro g cap w5 hv5 hg5 hg6 hg7
          have hm := Mat.snoc (M := colsM y M) (l := colL M y) HH.out.1 HH.out.2.1 HH.out.2.2 (by decide) hbel2 (by rw [HLC.out]; exact HOW.out) hz hg5 (by rw [HHL.out]; exact hv5)
          rw [HHL.out, ← HNX.out] at hm
          have hbl5 := (hbel.trans (hbel2.mono hz)).grown hg5 (by omega) (fun z hz2 => (h1'.lt _ hz2).1)
          clear hg5 hg6 hv5 h1' HH HOW hbel hbel2
          go_wp2
          go_roundw
          case rel => exact ⟨y + 1, by omega, by go_num, hm, hbl5⟩
          case measure => simp [intOf]; omega
    · obtain rfl : y = k := by omega
      go_wp2
      go_ret
      exact ⟨_, rfl, HMAT.out, hbel⟩
end Go.Proofs.Ytimjepakdldacaa

/-
  The closure of plumekeep.EquilLeft: the rows and columns of a table that are named in two lists; nothing that was there is written.
-/
import Derived.Test.YtimjepakdldacaaEquilP
import Derived.Test.YtimjepakdldacaaRowsL
import Derived.Test.YtimjepakdldacaaSqPay
import Derived.Test.YtimjepakdldacaaPush
import Derived.Test.YtimjepakdldacaaPushS
import Derived.Deep.DeepMust
namespace Go.Proofs.Ytimjepakdldacaa
open Go.RowKit Fm
set_option linter.unusedVariables false

def partR (M : List (List Int)) (Y : List Int) (x : Int) : List Int := Y.map fun y => ent M x.toNat y.toNat
def partT (M : List (List Int)) (X Y : List Int) : List (List Int) := X.map (partR M Y)

set_option maxHeartbeats 4000000 in
set_option maxRecDepth 100000 in
theorem partG_any {M : List (List Int)} {r k : Nat} (p : Pay r k M) {X Y : List Int} (hX : ∀ x ∈ X, 0 ≤ x ∧ x < r) (hY : ∀ y ∈ Y, 0 ≤ y ∧ y < k) (hX6 : X.length ≤ 6) (hY6 : Y.length ≤ 6) (a : Option Addr) (n c : Nat) (a4 a5 : Option Addr) (c4 c5 g5 g6 : Nat) (w : World)
    (hr : RdR w w.heap.size a n M) (r4 : Rd w w.heap.size a4 X.length X) (r5 : Rd w w.heap.size a5 Y.length Y) (h5 : g5 < w.heap.size) (h6 : g6 < w.heap.size) (u5 : w.cell? ⟨g5, 0, none⟩ = some (.slice a4 X.length c4)) (u6 : w.cell? ⟨g6, 0, none⟩ = some (.slice a5 Y.length c5)) :
    Calls Try.prog 21 #[.slice a n c, .pointer (some ⟨g5, 0, none⟩), .pointer (some ⟨g6, 0, none⟩)] w fun e w' => ∃ v, e = .returned v ∧ RL w' w.heap.size v X.length (partT M X Y) ∧ Below w.heap.size w w' := by
  obtain ⟨hnn, b, o, rfl, hbb, hsq⟩ := rdr_sqP hr p
  subst hnn
  have HSQ := Lib.hid hsq
  have HR4 := Lib.hid r4
  have HR5 := Lib.hid r5
  have HXB : Hid (∀ i, i < X.length → ∃ x : Nat, X.getD i 0 = x ∧ x < n) := fun i hi => by
    have := hX _ (getD_mem X i hi)
    exact ⟨(X.getD i 0).toNat, by omega, by omega⟩
  have HYB : Hid (∀ i, i < Y.length → ∃ y : Nat, Y.getD i 0 = y ∧ y < k) := fun i hi => by
    have := hY _ (getD_mem Y i hi)
    exact ⟨(Y.getD i 0).toNat, by omega, by omega⟩
  have HTX : Hid (∀ i, i < X.length → partT M (X.take i) Y ++ [partR M Y (X.getD i 0)] = partT M (X.take (i + 1)) Y) := fun i hi => by
    unfold partT
    rw [List.take_add_one, List.map_append, List.getD_eq_getElem?_getD, List.getElem?_eq_getElem hi]
    rfl
  have HTY : Hid (∀ (x : Nat) i, i < Y.length → partR M (Y.take i) x ++ [ent M x (Y.getD i 0).toNat] = partR M (Y.take (i + 1)) x) := fun x i hi => by
    unfold partR
    rw [List.take_add_one, List.map_append, List.getD_eq_getElem?_getD (i := i), List.getElem?_eq_getElem hi]
    rfl
  have HTE : Hid (partT M (X.take X.length) Y = partT M X Y) := by show _ = _; rw [List.take_of_length_le (Nat.le_refl _)]
  have HRE : Hid (∀ x : Nat, partR M (Y.take Y.length) x = partR M Y x) := fun x => by rw [List.take_of_length_le (Nat.le_refl _)]
  have HRL : Hid (∀ x, (partR M Y x).length = Y.length) := fun x => by simp [partR]
  have HT0 : Hid (partT M (X.take 0) Y = []) := rfl
  have HR0 : Hid (∀ x : Nat, partR M (Y.take 0) x = []) := fun _ => rfl
  have hn6 := p.r6
  have hk6 := p.k6
  obtain ⟨nx, hnx⟩ : ∃ nx, X.length = nx := ⟨_, rfl⟩
  obtain ⟨ny, hny⟩ : ∃ ny, Y.length = ny := ⟨_, rfl⟩
  rw [hnx] at HR4 HXB HTX HTE hX6 u5 ⊢
  rw [hny] at HR5 HYB HTY HRE HRL hY6 u6
  clear hr r4 r5 hsq hX hY hnx hny p
  go_enter Try.func21, Try.ntmps21
  go_wp2_with fail
  go_loopw [5, 13] (fun lv iv wr => ∃ i : Nat, i ≤ nx ∧ iv = .int .i64 i ∧ Hid (RL wr w.heap.size lv i (partT M (X.take i) Y)) ∧ Below w.heap.size w wr) (fun _ iv _ => nx - (intOf iv).toNat)
  case atStart => exact ⟨0, Nat.zero_le _, rfl, (show Hid _ from by rw [HT0.out]; exact RL.nil_ _ _), Below.refl _ w⟩
  case round =>
    obtain ⟨i, hi, rfl, RM, hbl⟩ := hrel
    by_cases hin : i < nx
    · obtain ⟨x, hx, hxn⟩ := HXB.out i hin
      obtain ⟨b4, o4, rfl, hb4, hc4⟩ := HR4.out.at_ hin
      rw [hx] at hc4
      have r1 := (hbl.cell (p := ⟨b4, o4 + i, none⟩) (by exact hb4)).trans hc4
      have r2 := (hbl.cell (p := ⟨g6, 0, none⟩) (by exact h6)).trans u6
      obtain ⟨bx, ox, cx, hbx, hrx, _, _, hcx⟩ := HSQ.out x hxn
      have HCX := Lib.hid hcx
      have HTXi := Lib.hid (HTX.out i hin)
      rw [hx] at HTXi
      have hz := hbl.size
      have HBL := Lib.hid hbl
      have d1 : decide ((i : Int) < (nx : Int)) = true := decide_eq_true (by omega)
      have hxn' : (x : Int) < (n : Int) := by omega
      obtain ⟨wo, rfl⟩ : ∃ wo, wo = wr := ⟨_, rfl⟩
      clear hx hc4 hcx hbl
      go_wp2_with fail
      go_loopw [8, 19] (fun rv iv wr => ∃ j : Nat, j ≤ ny ∧ iv = .int .i64 j ∧ wr.ownsRow wo.heap.size 3 1 rv j (I (partR M (Y.take j) x)) ∧ Below wo.heap.size wo wr) (fun _ iv _ => ny - (intOf iv).toNat)
      case atStart => exact ⟨0, Nat.zero_le _, rfl, ⟨by rw [HR0.out]; rfl, .inl ⟨rfl, rfl⟩⟩, Below.refl _ wo⟩
      case round =>
        obtain ⟨j, hj, rfl, own, hb5⟩ := hrel
        have hz5 := hb5.size
        by_cases hjn : j < ny
        · obtain ⟨y, hy, hyk⟩ := HYB.out j hjn
          obtain ⟨b5, o5, rfl, hb5', hc5⟩ := HR5.out.at_ hjn
          rw [hy] at hc5
          have hbF : Below w.heap.size w wr := HBL.out.trans (hb5.mono hz)
          have t1 := (hbF.cell (p := ⟨b5, o5 + j, none⟩) (by exact hb5')).trans hc5
          have t2 := (hbF.cell (p := ⟨b, o + x, none⟩) (by exact hbb)).trans hrx
          have t3 := (hbF.cell (p := ⟨bx, ox + y, none⟩) (by exact hbx)).trans (HCX.out y hyk)
          have HN := Lib.hid (HTY.out x j hjn)
          rw [hy, Int.toNat_natCast] at HN
          have hyk' : (y : Int) < (k : Int) := by omega
          clear hy hc5 hbF
          generalize ent M x y = z at *
          generalize hq : partR M (Y.take j) x = q at *
          clear hq
          go_wp2_with (at_builtin; go_must (refine push1 rfl _ _ rfl wr wo.heap.size _ j q z rfl rfl (by exact own) hz5 (by omega) ?_))
          intro g7 cap7 w7 own7 hgr _ _
          have hb7 := hb5.grown hgr hz5 (fun y hy => (own.lt _ hy).1)
          rw [HN.out] at own7
          clear own hgr hb5 t1 t2 t3
          go_wp2
          go_roundw
          case rel => exact ⟨j + 1, by omega, by go_num, own7, hb7⟩
          case measure => simp [intOf]; omega
        · obtain rfl : j = ny := by omega
          rw [HRE.out] at own
          obtain ⟨vs, v1, v2, v3⟩ := RM.out.below hb5
          have HOWN := Lib.hid own
          obtain ⟨ra, rc, rfl, _, _⟩ := own_slice own
          have V23 := Lib.hid (show _ ∧ _ from ⟨v2, v3⟩)
          clear v2 v3 RM own r1 r2
          go_wp2_with (at_builtin; go_must (refine pushS rfl _ _ rfl wr w.heap.size _ i vs ra j rc rfl rfl (by exact v1) (by omega) (by omega) ?_))
          intro g7 cap7 w7 hv7 hg7 hd7 hl7
          have o1 : wr.ownsRow w.heap.size 3 1 (.slice ra j rc) (partR M Y x).length (I (partR M Y x)) := by rw [HRL.out]; exact own_mono HOWN.out (by omega)
          have RM7 := RL.push v1 V23.out.1 V23.out.2 o1 hg7 hv7
          rw [HTXi.out] at RM7
          have hb7 : Below w.heap.size w w7 := (HBL.out.trans (hb5.mono hz)).grown hg7 (by omega) (fun z hz2 => (v1.lt _ hz2).1)
          have HRM7 := Lib.hid RM7
          clear v1 hv7 hg7 hd7 RM7 o1 HOWN V23 hb5
          go_wp2
          go_roundw
          case rel => exact ⟨i + 1, by omega, by go_num, HRM7, hb7⟩
          case measure => simp [intOf]; omega
    · obtain rfl : i = nx := by omega
      rw [HTE.out] at RM
      go_wp2
      go_ret
      exact ⟨_, rfl, RM.out, hbl⟩
end Go.Proofs.Ytimjepakdldacaa

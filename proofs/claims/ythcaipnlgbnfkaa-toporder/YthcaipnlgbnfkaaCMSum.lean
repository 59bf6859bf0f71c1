/-
  middle.sumOfDistances at votes and an order: how far the order is from all votes together; nothing that was there is written.
-/
import Derived.Test.YthcaipnlgbnfkaaM3
import Derived.Test.YthcaipnlgbnfkaaM6
namespace Go.Proofs.Ythcaipnlgbnfkaa
open Go.RowKit Fm
set_option linter.unusedVariables false

set_option maxHeartbeats 1000000 in
set_option maxRecDepth 100000 in
theorem sumD_any {n : Nat} (h1 : 1 ≤ n) (h6 : n ≤ 6) {V : List (List Int)} (hV : ∀ q ∈ V, q.Perm (sides n)) (h30 : V.length ≤ 30) {p : List Int} (hp : p.Perm (sides n)) (a ap : Option Addr) (c cp : Nat) (w : World) (hr : RdR w w.heap.size a V.length V) (hrp : Rd w w.heap.size ap n p) (hnc : n ≤ cp) :
    Calls Try.prog 73 #[.slice a V.length c, .slice ap n cp] w fun e w' => e = .returned (.tuple #[.int .i64 (farT V p : Nat), .int .i64 0]) ∧ Below w.heap.size w w' := by
  have HR := Lib.hid hr
  have HRP := Lib.hid hrp
  have HV := Lib.hid hV
  have HP := Lib.hid hp
  have hpl : p.length = n := by have := hp.length_eq; rwa [sides_len] at this
  have HPL := Lib.hid hpl
  have HNC := Lib.hid hnc
  obtain ⟨res, hres⟩ : ∃ res, farT V p = res := ⟨_, rfl⟩
  rw [hres]
  have HRES := Lib.hid hres
  clear hr hrp hV hp hres hpl hnc
  go_enter Try.func73, Try.ntmps73
  go_wp2_with fail
  go_loopw [6, 13] (fun kv iv wr => ∃ k : Nat, k ≤ V.length ∧ iv = .int .i64 k ∧ kv = .int .i64 ((farT (V.take k) p : Nat) : Int) ∧ Below w.heap.size w wr) (fun _ iv _ => V.length - (intOf iv).toNat)
  case atStart => exact ⟨0, Nat.zero_le _, rfl, rfl, Below.refl _ w⟩
  case round =>
    obtain ⟨k, hk, rfl, rfl, hbel⟩ := hrel
    by_cases hkV : k < V.length
    · obtain ⟨b, o, a', c', rfl, hb, hcell, _, _, _, hrd⟩ := HR.out.at_ hkV
      have hq := HV.out _ (memR hkV)
      have hql : (V.getD k []).length = n := by have := hq.length_eq; rwa [sides_len] at this
      have hck : wr.cell? ⟨b, o + k, none⟩ = some (.slice a' n c') := by rw [(hbel.cell (by show b < _; omega)), hcell, hql]
      rw [hql] at hrd
      have HS := Lib.hid (farT_take V p hkV)
      have hfl := farT_le h6 (V.take k) HPL.out
      have hfl2 : (V.take k).length ≤ 30 := by rw [List.length_take]; omega
      have hil := inv_le (q := V.getD k []) HPL.out h6
      have QB := Lib.hid (far_perm HP.out hq h1 h6 ap a' cp c' wr wr.heap.size (Nat.le_refl _) (rd_ext HRP.out hbel) (rd_ext hrd hbel) HNC.out)
      clear hcell hrd hq hql
      generalize V.getD k [] = q at *
      generalize farT (V.take k) p = ft at *
      generalize inv p q = iv at *
      go_wp2_with fail
      refine QB.out.mono ?_
      rintro e w1 ⟨rfl, hb1⟩
      have hb2 := ext_trans hbel hb1
      clear QB hb1 hbel hck
      go_wp2
      go_roundw
      case rel => exact ⟨k + 1, by omega, by go_num, by rw [HS.out]; rfl, hb2⟩
      case measure => simp [intOf]; omega
    · obtain rfl : k = V.length := by omega
      have e1 : V.take V.length = V := List.take_of_length_le (Nat.le_refl _)
      rw [e1, HRES.out]
      clear e1
      go_wp2
      go_ret2
      exact ⟨rfl, hbel⟩
end Go.Proofs.Ythcaipnlgbnfkaa

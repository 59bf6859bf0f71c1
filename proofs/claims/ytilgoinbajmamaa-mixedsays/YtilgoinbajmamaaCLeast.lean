/-
  plumeref.LeastOf: what it returns; nothing that was there is written.
-/
import Derived.Test.YtilgoinbajmamaaMixCand
import Derived.Test.YtilgoinbajmamaaMixP
import Derived.Test.YtilgoinbajmamaaSqPay
import Derived.Test.YtilgoinbajmamaaCMinMax
import Derived.Test.YtilgoinbajmamaaPush
import Derived.BigQuiet
import Derived.Deep.QuietTactic
import Derived.Deep.DeepMust
namespace Go.Proofs.Ytilgoinbajmamaa
open Go.RowKit Fm
set_option linter.unusedVariables false

theorem lv_bd {M : List (List Int)} {k : Nat} (p : Pay 2 k M) {P Q : Int} (h0 : 0 ≤ P) (h1 : P ≤ Q) (y : Nat) : -1000 * Q ≤ mval M P Q y ∧ mval M P Q y ≤ 1000 * Q := by
  have e0 := p.ent 0 y
  have e1 := p.ent 1 y
  have a1 := Int.mul_le_mul_of_nonneg_right e0.1 h0
  have a2 := Int.mul_le_mul_of_nonneg_right e0.2 h0
  have a3 := Int.mul_le_mul_of_nonneg_right e1.1 (show 0 ≤ Q - P by omega)
  have a4 := Int.mul_le_mul_of_nonneg_right e1.2 (show 0 ≤ Q - P by omega)
  unfold mval
  omega
theorem lvOf_bd {M : List (List Int)} {k : Nat} (p : Pay 2 k M) {P Q : Int} (h0 : 0 ≤ P) (h1 : P ≤ Q) : -1000 * Q ≤ lvOf M k P Q ∧ lvOf M k P Q ≤ 1000 * Q := by
  obtain ⟨y, hy, e⟩ := lv_at (M := M) p.k1 P Q
  rw [← e]
  exact lv_bd p h0 h1 y

set_option maxHeartbeats 2000000 in
set_option maxRecDepth 100000 in
theorem least_any {M : List (List Int)} {k : Nat} (p : Pay 2 k M) {P Q : Int} (h0 : 0 ≤ P) (h1 : P ≤ Q) (hQ : Q ≤ 4000) (a : Option Addr) (n c : Nat) (w : World) (hr : RdR w w.heap.size a n M) :
    Calls Try.prog 29 #[.slice a n c, .int .i64 P, .int .i64 Q] w fun e w' => e = .returned (.int .i64 (lvOf M k P Q)) ∧ Below w.heap.size w w' := by
  obtain ⟨hnn, b, o, rfl, hbb, hsq⟩ := rdr_sqP hr p
  subst hnn
  obtain ⟨b0, o0, c0, hb0, hr0, _, _, hc0⟩ := hsq 0 (by omega)
  obtain ⟨b1, o1, c1, hb1, hr1, _, _, hc1⟩ := hsq 1 (by omega)
  rw [Nat.add_zero] at hr0
  have k1 := p.k1
  have k6 := p.k6
  have H0 : Hid (∀ y, y < k → w.cell? ⟨b0, o0 + y, none⟩ = some (.int .i64 (ent M 0 y))) := hc0
  have H1 : Hid (∀ y, y < k → w.cell? ⟨b1, o1 + y, none⟩ = some (.int .i64 (ent M 1 y))) := hc1
  have HP : Hid (∀ y, ∃ A B : Int, ent M 0 y * P = A ∧ ent M 1 y * (Q - P) = B ∧ mval M P Q y = A + B ∧ -4000000 ≤ A ∧ A ≤ 4000000 ∧ -4000000 ≤ B ∧ B ≤ 4000000) := fun y => by
    have e0 := p.ent 0 y
    have e1 := p.ent 1 y
    have a1 := Int.mul_le_mul_of_nonneg_right e0.1 h0
    have a2 := Int.mul_le_mul_of_nonneg_right e0.2 h0
    have a3 := Int.mul_le_mul_of_nonneg_right e1.1 (show 0 ≤ Q - P by omega)
    have a4 := Int.mul_le_mul_of_nonneg_right e1.2 (show 0 ≤ Q - P by omega)
    exact ⟨_, _, rfl, rfl, rfl, by omega, by omega, by omega, by omega⟩
  have HEB : Hid (∀ e y, -1000 ≤ ent M e y ∧ ent M e y ≤ 1000) := fun e y => p.ent e y
  obtain ⟨F, hF⟩ : ∃ F : Nat → List Int, ∀ y, ((List.range y).map fun y => mval M P Q y) = F y := ⟨_, fun _ => rfl⟩
  have HFN : Hid (∀ y, F y ++ [mval M P Q y] = F (y + 1)) := fun y => by rw [← hF, ← hF, List.range_succ, List.map_append]; rfl
  have HFL : Hid (∀ y, (F y).length = y) := fun y => by rw [← hF]; simp
  have HF0 : Hid (F 0 = []) := by show _ = _; rw [← hF]; rfl
  have HRES : Hid (lvOf M k P Q = leastI (F k)) := by show _ = _; rw [← hF]; rfl
  have hz0 : (0 : Int) ≤ Q - P := by omega
  rw [HRES.out]
  clear hF hc0 hc1 hr hsq p HRES
  go_enter Try.func29, Try.ntmps29
  go_wp2_with fail
  go_loopw [7, 14] (fun lv iv wr => ∃ y : Nat, y ≤ k ∧ iv = .int .i64 y ∧ wr.ownsRow w.heap.size 3 1 lv y (I (F y)) ∧ Below w.heap.size w wr) (fun _ iv _ => k - (intOf iv).toNat)
  case atStart => exact ⟨0, Nat.zero_le _, rfl, ⟨by rw [HF0.out]; rfl, .inl ⟨rfl, rfl⟩⟩, Below.refl _ w⟩
  case round =>
    obtain ⟨y, hy, rfl, own, hbel⟩ := hrel
    have hz := hbel.size
    by_cases hyk : y < k
    · have t1 := (hbel.cell (p := ⟨b, o + 1, none⟩) (by exact hbb)).trans hr1
      have t2 := (hbel.cell (p := ⟨b0, o0 + y, none⟩) (by exact hb0)).trans (H0.out y hyk)
      have t3 := (hbel.cell (p := ⟨b1, o1 + y, none⟩) (by exact hb1)).trans (H1.out y hyk)
      obtain ⟨A, B, e1, e2, e3, l1, l2, l3, l4⟩ := HP.out y
      obtain ⟨m1, m2⟩ := HEB.out 0 y
      obtain ⟨m3, m4⟩ := HEB.out 1 y
      have HN := Lib.hid (HFN.out y)
      rw [e3] at HN
      generalize hG : F y = G at *
      generalize ent M 0 y = z0 at *
      generalize ent M 1 y = z1 at *
      clear e3 hG
      go_wp2_with (at_builtin; go_must (refine push1 rfl _ _ rfl wr w.heap.size _ y G (A + B) rfl rfl (by exact own) hz (by omega) ?_))
      intro g6 cap6 w6 own6 hgr _ _
      have hb6 := hbel.grown hgr hz (fun y hy => (own.lt _ hy).1)
      rw [HN.out] at own6
      clear own hgr hbel t1 t2 t3
      go_wp2
      go_roundw
      case rel => exact ⟨y + 1, by omega, by go_num, own6, hb6⟩
      case measure => simp [intOf]; omega
    · obtain rfl : y = k := by omega
      obtain ⟨ca, cc, rfl, _, _⟩ := own_slice own
      have Q1 := Lib.hid (minI_any (F y) ca y cc wr wr.heap.size (by omega) (Rd.of_own own) (by omega))
      clear own
      go_wp2_with fail
      refine Q1.out.mono ?_
      rintro e w' ⟨rfl, hb'⟩
      go_wp2
      go_ret
      exact ⟨rfl, by first | exact hb' ▸ hbel | exact ext_trans hbel hb'⟩
end Go.Proofs.Ytilgoinbajmamaa

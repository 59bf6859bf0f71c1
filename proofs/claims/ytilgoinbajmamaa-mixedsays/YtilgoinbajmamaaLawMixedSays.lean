/-
  plumelaw.MixedSays returns true, for every slice of slices of ints, if mixed.Solve keeps its contract; nothing that was there is written.
-/
import Derived.Test.YtilgoinbajmamaaCSolve
import Derived.Test.YtilgoinbajmamaaCPayErr
import Derived.Test.YtilgoinbajmamaaMixP
import Derived.BigQuiet
import Derived.Deep.QuietTactic
namespace Go.Proofs.Ytilgoinbajmamaa
open Go.RowKit Fm
set_option linter.unusedVariables false

set_option maxHeartbeats 4000000 in
set_option maxRecDepth 100000 in
theorem mixedSays_is (mE : MSolveE) (mS : MSolve) (v : Value) (L : List (List Int)) {w : World} (f : IsRows w v L) :
    Calls Try.prog 3 #[v] w fun e w' => e = .returned (.bool true) ∧ Below w.heap.size w w' := by
  obtain ⟨a, c, rfl, hr, hall, hlc, _, hcm, h24⟩ := f
  have hT : TabIn w a L.length L := ⟨w.heap.size, Nat.le_refl _, hr, by omega, fun l hl => by have := (hall l hl).2; omega⟩
  have QP : Hid (∀ W, Below w.heap.size w W → Calls Try.prog 9 #[.slice a L.length c] W fun e w' => e = .returned (.int .i64 (pchk L)) ∧ Below W.heap.size W w') := fun W hW => payErr_any a L.length c L W W.heap.size (Nat.le_refl _) (rdr_ext hr hW) (by omega) (fun l hl => by have := (hall l hl).2; omega)
  have HR := Lib.hid hr
  have hgd := ratioGuard
  by_cases h0 : mxchk L = 0
  · obtain ⟨hp0, p⟩ := mxchk_ok h0
    obtain ⟨k, hk⟩ : ∃ k, (L.getD 0 []).length = k := ⟨_, rfl⟩
    rw [hk] at p
    have hl2 : L.length = 2 := p.len
    have QS := Lib.hid (mS k a L.length c L w hT p)
    have QR : Hid (∀ W, Below w.heap.size w W → Calls Try.prog 10 #[.slice a L.length c] W (SolveOut k L W)) := fun W hW => solveOf_any p a L.length c W (rdr_ext HR.out hW)
    rw [hp0] at QP
    rw [hl2] at QS QP QR ⊢
    unfold SolveOut at QR
    clear h0 hk mE mS hT hr hall HR hlc h24 hp0 p hl2
    go_enter Try.func3, Try.ntmps3
    go_wp2_with fail
    refine QS.out.mono ?_
    rintro e w3 ⟨P, Q, V, W, hs, rfl, hb3⟩
    have HS := Lib.hid hs
    obtain ⟨u1, u2, u3, u4, hsz, hbx⟩ := boxes2 w3 24 P Q V W
    have hb4 := ext_trans hb3 hbx
    have HP := Lib.hid (QP.out _ hb4)
    clear QS hs hb3 hbx
    go_wp2_with fail
    generalize (w3.alloc (.cells #[.int .i64 P, .int .i64 Q] 24)).alloc (.cells #[.int .i64 V, .int .i64 W] 24) = w4 at *
    generalize w3.heap.size = g at *
    refine HP.out.mono ?_
    rintro e w5 ⟨rfl, hb5⟩
    have hg : g < w4.heap.size := by omega
    have t1 := (hb5.cell (p := ⟨g, 0, none⟩) (by exact hg)).trans u1
    have t2 := (hb5.cell (p := ⟨g, 1, none⟩) (by exact hg)).trans u2
    have t3 := (hb5.cell (p := ⟨g + 1, 0, none⟩) (by exact hsz)).trans u3
    have t4 := (hb5.cell (p := ⟨g + 1, 1, none⟩) (by exact hsz)).trans u4
    have hb05 := ext_trans hb4 hb5
    have hsz5 : g + 1 < w5.heap.size := Nat.lt_of_lt_of_le hsz hb5.size
    have HQ := Lib.hid (QR.out w5 hb05)
    clear HP QP u1 u2 u3 u4 hb4 hb5 hsz hg QR
    go_wp2_with fail
    refine HQ.out.mono ?_
    rintro e w6 ⟨P2, Q2, V2, W2, hs2, rfl, hb6⟩
    obtain ⟨e1, e2, e3, e4⟩ := sol_one HS.out hs2
    have hpi : ∀ w, (Op.equalIn 10000 24 (.agg #[.int .i64 P, .int .i64 Q]) (.agg #[.int .i64 P2, .int .i64 Q2])).run Try.prog w = .ok true w := fun w => by rw [ratioIn]; simp [e1, e2]
    have hpj : ∀ w, (Op.equalIn 10000 24 (.agg #[.int .i64 V, .int .i64 W]) (.agg #[.int .i64 V2, .int .i64 W2])).run Try.prog w = .ok true w := fun w => by rw [ratioIn]; simp [e3, e4]
    obtain ⟨v1, v2, v3, v4, hsz2, hbx⟩ := boxes2 w6 24 P2 Q2 V2 W2
    have hbY := ext_trans hb6 hbx
    have hg5 : g < w5.heap.size := by omega
    have s1 := (hbY.cell (p := ⟨g, 0, none⟩) (by exact hg5)).trans t1
    have s2 := (hbY.cell (p := ⟨g, 1, none⟩) (by exact hg5)).trans t2
    have s3 := (hbY.cell (p := ⟨g + 1, 0, none⟩) (by exact hsz5)).trans t3
    have s4 := (hbY.cell (p := ⟨g + 1, 1, none⟩) (by exact hsz5)).trans t4
    have hbZ := ext_trans hb05 hbY
    clear HQ hs2 hb6 hbx hbY hb05 t1 t2 t3 t4 e1 e2 e3 e4 HS
    go_wp2
    go_ret
    exact ⟨by first | rfl | simp, hbZ⟩
  · have QS := Lib.hid (mE a L.length c L w hT h0)
    have h00 : ∀ w, (Op.equalIn 10000 24 (.agg #[.int .i64 0, .int .i64 0]) (.agg #[.int .i64 0, .int .i64 0])).run Try.prog w = .ok true w := fun w => by rw [ratioIn]; rfl
    by_cases h1 : pchk L = 0
    · have h2 : L.length ≠ 2 := fun h => h0 (by unfold mxchk; rw [if_neg (by simpa using h1), if_neg (by simpa using h)])
      have e3 : mxchk L = 3 := by unfold mxchk; rw [if_neg (by simpa using h1), if_pos h2]
      have hne : ((L.length : Int) != 2) = true := by simp; omega
      rw [e3] at QS
      rw [h1] at QP
      clear h0 h1 h2 e3 hr hall HR hT mE mS
      generalize L.length = n at *
      go_enter Try.func3, Try.ntmps3
      go_wp2_with fail
      refine QS.out.mono ?_
      rintro e w3 ⟨rfl, hb3⟩
      obtain ⟨u1, u2, u3, u4, hsz, hbx⟩ := boxes2 w3 24 0 0 0 0
      have hb4 := ext_trans hb3 hbx
      have HP := Lib.hid (QP.out _ hb4)
      clear QS hb3 hbx
      go_wp2_with fail
      generalize (w3.alloc (.cells #[.int .i64 0, .int .i64 0] 24)).alloc (.cells #[.int .i64 0, .int .i64 0] 24) = w4 at *
      generalize w3.heap.size = g at *
      refine HP.out.mono ?_
      rintro e w5 ⟨rfl, hb5⟩
      have hg : g < w4.heap.size := by omega
      have t1 := (hb5.cell (p := ⟨g, 0, none⟩) (by exact hg)).trans u1
      have t2 := (hb5.cell (p := ⟨g, 1, none⟩) (by exact hg)).trans u2
      have t3 := (hb5.cell (p := ⟨g + 1, 0, none⟩) (by exact hsz)).trans u3
      have t4 := (hb5.cell (p := ⟨g + 1, 1, none⟩) (by exact hsz)).trans u4
      have hb05 := ext_trans hb4 hb5
      clear HP QP u1 u2 u3 u4 hb4 hb5 hsz hg
      go_wp2
      go_ret
      exact ⟨by first | rfl | simp, hb05⟩
    · have e3 : mxchk L = pchk L := by unfold mxchk; rw [if_pos h1]
      rw [e3] at QS
      have hne : (pchk L != 0) = true := by simpa using h1
      have hne2 : (pchk L == 0) = false := by simpa using h1
      clear h0 h1 e3 hr hall HR hT mE mS
      generalize pchk L = r at *
      generalize L.length = n at *
      go_enter Try.func3, Try.ntmps3
      go_wp2_with fail
      refine QS.out.mono ?_
      rintro e w3 ⟨rfl, hb3⟩
      obtain ⟨u1, u2, u3, u4, hsz, hbx⟩ := boxes2 w3 24 0 0 0 0
      have hb4 := ext_trans hb3 hbx
      have HP := Lib.hid (QP.out _ hb4)
      clear QS hb3 hbx
      go_wp2_with fail
      generalize (w3.alloc (.cells #[.int .i64 0, .int .i64 0] 24)).alloc (.cells #[.int .i64 0, .int .i64 0] 24) = w4 at *
      generalize w3.heap.size = g at *
      refine HP.out.mono ?_
      rintro e w5 ⟨rfl, hb5⟩
      have hg : g < w4.heap.size := by omega
      have t1 := (hb5.cell (p := ⟨g, 0, none⟩) (by exact hg)).trans u1
      have t2 := (hb5.cell (p := ⟨g, 1, none⟩) (by exact hg)).trans u2
      have t3 := (hb5.cell (p := ⟨g + 1, 0, none⟩) (by exact hsz)).trans u3
      have t4 := (hb5.cell (p := ⟨g + 1, 1, none⟩) (by exact hsz)).trans u4
      have hb05 := ext_trans hb4 hb5
      clear HP QP u1 u2 u3 u4 hb4 hb5 hsz hg
      go_wp2
      go_ret
      exact ⟨by first | rfl | simp, hb05⟩
end Go.Proofs.Ytilgoinbajmamaa

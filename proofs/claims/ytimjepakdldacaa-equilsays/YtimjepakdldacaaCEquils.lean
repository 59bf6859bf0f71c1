/-
  plumekeep.equils returns true, if equil.Rest and equil.Left keep their contracts; nothing that was there is written.
-/
import Derived.Test.YtimjepakdldacaaEquilP
import Derived.Test.YtimjepakdldacaaCSaddles
import Derived.Test.YtimjepakdldacaaCEqual
namespace Go.Proofs.Ytimjepakdldacaa
open Go.RowKit Fm
set_option linter.unusedVariables false

theorem two6 (w : World) (W : World) (hW : W = ((((((w.alloc (.cells #[.int .i64 3, .int .i64 0] 3)).alloc (.cells #[.int .i64 5, .int .i64 1] 3)).alloc (.cells #[.slice (some ⟨w.heap.size, 0, none⟩) 2 2, .slice (some ⟨w.heap.size + 1, 0, none⟩) 2 2] 27)).alloc (.cells #[.int .i64 3, .int .i64 5] 3)).alloc (.cells #[.int .i64 0, .int .i64 1] 3)).alloc
      (.cells #[.slice (some ⟨w.heap.size + 1 + 1 + 1, 0, none⟩) 2 2, .slice (some ⟨w.heap.size + 1 + 1 + 1 + 1, 0, none⟩) 2 2] 27))) :
    TabIn W (some ⟨w.heap.size + 1 + 1, 0, none⟩) 2 A6 ∧ TabIn W (some ⟨w.heap.size + 1 + 1 + 1 + 1 + 1, 0, none⟩) 2 B6 ∧ Below w.heap.size w W := by
  obtain ⟨r1, b1⟩ := lit2 w 3 27 [3, 0] [5, 1] #[.int .i64 3, .int .i64 0] #[.int .i64 5, .int .i64 1] rfl rfl (by decide) (by decide)
  obtain ⟨W1, hW1⟩ : ∃ W1, ((w.alloc (.cells #[.int .i64 3, .int .i64 0] 3)).alloc (.cells #[.int .i64 5, .int .i64 1] 3)).alloc (.cells #[.slice (some ⟨w.heap.size, 0, none⟩) 2 2, .slice (some ⟨w.heap.size + 1, 0, none⟩) 2 2] 27) = W1 := ⟨_, rfl⟩
  have e0 : W1.heap.size = w.heap.size + 1 + 1 + 1 := by rw [← hW1]; simp
  rw [hW1] at hW
  have r1 : RdR W1 W1.heap.size (some ⟨w.heap.size + 1 + 1, 0, none⟩) 2 A6 := by rw [← hW1]; exact r1
  have b1 : Below w.heap.size w W1 := by rw [← hW1]; exact b1
  obtain ⟨r2, b2⟩ := lit2 W1 3 27 [3, 5] [0, 1] #[.int .i64 3, .int .i64 5] #[.int .i64 0, .int .i64 1] rfl rfl (by decide) (by decide)
  have h2 : W = ((W1.alloc (.cells #[.int .i64 3, .int .i64 5] 3)).alloc (.cells #[.int .i64 0, .int .i64 1] 3)).alloc (.cells #[.slice (some ⟨W1.heap.size, 0, none⟩) 2 2, .slice (some ⟨W1.heap.size + 1, 0, none⟩) 2 2] 27) := by rw [hW, e0]
  have r2 : RdR W W.heap.size (some ⟨w.heap.size + 1 + 1 + 1 + 1 + 1, 0, none⟩) 2 B6 := by rw [h2, ← e0]; exact r2
  have b2 : Below W1.heap.size W1 W := by rw [h2]; exact b2
  exact ⟨tabIn_pay (rdr_ext r1 b2) g6_ok.a, tabIn_pay r2 g6_ok.b, ext_trans b1 b2⟩

set_option maxHeartbeats 4000000 in
set_option maxRecDepth 100000 in
theorem equils_any (eR : ERest) (eL : ELeft) (w : World) :
    Calls Try.prog 17 #[] w fun e w' => e = .returned (.bool true) ∧ Below w.heap.size w w' := by
  have ER : Hid ERest := eR
  have EL : Hid ELeft := eL
  clear eR eL
  have L1 := Lib.hid (two6 w)
  go_enter Try.func17, Try.ntmps17
  go_wp2_with fail
  obtain ⟨T1, T2, b1⟩ := L1.out _ rfl
  refine (ER.out 2 2 _ 2 2 A6 _ 2 2 B6 _ T1 T2 g6_ok).mono ?_
  rintro e w1 ⟨a1, c1, rfl, _, _, r1, hb1⟩
  rw [g6_pts] at r1 ⊢
  have R1 := Lib.hid r1
  have HB := Lib.hid (ext_trans b1 hb1)
  have HT := Lib.hid (show _ ∧ _ from ⟨T1.below hb1, T2.below hb1⟩)
  clear r1 b1 hb1 T1 T2 L1
  go_wp2_with fail
  refine (EL.out 2 2 _ 2 2 A6 _ 2 2 B6 _ HT.out.1 HT.out.2 g6_ok).mono ?_
  rintro e w2 ⟨R, C, he, a2, c2, a3, c3, rfl, _, _, r2, r3, hb2⟩
  obtain ⟨e1, e2⟩ := g6_left he
  rw [e1] at r2 ⊢
  rw [e2] at r3 ⊢
  have R1' := Lib.hid (rd2_ext R1.out hb2)
  have R2 := Lib.hid r2
  have R3 := Lib.hid r3
  have HB2 := Lib.hid (ext_trans HB.out hb2)
  clear r2 r3 hb2 he e1 e2 R1 HB HT
  go_wp2_with fail
  refine (good_zero w2.heap.size 0 2 2 _ (by omega) (zeros_at w2 24 2 #[.int .i64 0, .int .i64 0] rfl)).mono ?_
  rintro e w3 ⟨rfl, rfl⟩
  have b3 : Below w2.heap.size w2 (w2.alloc (.cells #[.int .i64 0, .int .i64 0] 24)) := (Below.refl _ _).alloc (by omega) _
  have P3 := Lib.hid (rd2_ext R1'.out b3)
  have Q3 := Lib.hid (rd_ext R2.out b3)
  have S3 := Lib.hid (rd_ext R3.out b3)
  have HB3 := Lib.hid (ext_trans HB2.out b3)
  clear b3 R1' R2 R3 HB2
  generalize w2.alloc (.cells #[.int .i64 0, .int .i64 0] 24) = w3 at *
  have L3 := Lib.hid (rd2_lit1 w3 34 1 1)
  have b4 : Below w3.heap.size w3 (w3.alloc (.cells #[.int .i64 1, .int .i64 1] 34)) := (Below.refl _ _).alloc (by omega) _
  go_wp2_with fail
  refine (equal2_any [(1, 1)] [(1, 1)] a1 (some ⟨w3.heap.size, 0, none⟩) 1 c1 1 1 (w3.alloc (.cells #[.int .i64 1, .int .i64 1] 34)) _ (rd2_ext P3.out b4) L3.out (by omega) (by omega)).mono ?_
  rintro e w4 ⟨rfl, k4, rfl⟩
  have b4' := below_drewN b4 k4
  have Q4 := Lib.hid (rd_ext Q3.out b4')
  have S4 := Lib.hid (rd_ext S3.out b4')
  have HB4 := Lib.hid (ext_trans HB3.out b4')
  clear b4 b4' L3 P3 Q3 S3 HB3
  obtain ⟨w5, hw5⟩ : ∃ w5, (w3.alloc (.cells #[.int .i64 1, .int .i64 1] 34)).drewN k4 = w5 := ⟨_, rfl⟩
  rw [hw5] at Q4 S4 HB4 ⊢
  clear hw5
  have L5 : Hid (Rd (w5.alloc (.cells #[.int .i64 1] 3)) (w5.alloc (.cells #[.int .i64 1] 3)).heap.size (some ⟨w5.heap.size, 0, none⟩) 1 [1]) := (Rd.lit w5 3 [1] #[.int .i64 1] rfl).more (by simp)
  have b5 : Below w5.heap.size w5 (w5.alloc (.cells #[.int .i64 1] 3)) := (Below.refl _ _).alloc (by omega) _
  have Q5 := Lib.hid (rd_ext Q4.out b5)
  have S5 := Lib.hid (rd_ext S4.out b5)
  have HB5 := Lib.hid (ext_trans HB4.out b5)
  clear b5 Q4 S4 HB4
  go_wp2_with fail
  refine (equal_any [1] [1] a2 (some ⟨w5.heap.size, 0, none⟩) 1 c2 1 1 (w5.alloc (.cells #[.int .i64 1] 3)) _ Q5.out L5.out (by omega) (by omega)).mono ?_
  rintro e w6 ⟨rfl, k6, rfl⟩
  have S6 := Lib.hid (S5.out.drewN k6)
  have HB6 := Lib.hid (below_drewN HB5.out k6)
  clear L5 Q5 S5 HB5
  obtain ⟨w7, hw7⟩ : ∃ w7, (w5.alloc (.cells #[.int .i64 1] 3)).drewN k6 = w7 := ⟨_, rfl⟩
  have S7 : Hid (Rd w7 w7.heap.size a3 1 [1]) := by rw [← hw7]; exact S6.out
  rw [hw7] at HB6 ⊢
  clear hw7 S6
  have L7 : Hid (Rd (w7.alloc (.cells #[.int .i64 1] 3)) (w7.alloc (.cells #[.int .i64 1] 3)).heap.size (some ⟨w7.heap.size, 0, none⟩) 1 [1]) := (Rd.lit w7 3 [1] #[.int .i64 1] rfl).more (by simp)
  have b7 : Below w7.heap.size w7 (w7.alloc (.cells #[.int .i64 1] 3)) := (Below.refl _ _).alloc (by omega) _
  have S8 := Lib.hid (rd_ext S7.out b7)
  have HB8 := Lib.hid (ext_trans HB6.out b7)
  clear b7 S7 HB6
  go_wp2_with fail
  refine (equal_any [1] [1] a3 (some ⟨w7.heap.size, 0, none⟩) 1 c3 1 1 (w7.alloc (.cells #[.int .i64 1] 3)) _ S8.out L7.out (by omega) (by omega)).mono ?_
  rintro e w8 ⟨rfl, k8, rfl⟩
  have hbf := below_drewN HB8.out k8
  clear S8 L7 HB8
  go_wp2
  go_ret
  exact ⟨rfl, hbf⟩
end Go.Proofs.Ytimjepakdldacaa

/-
  plumekeep.wides returns true, if package widest keeps its contracts; plumekeep.tableOf returns true at n rows of n.
-/
import Derived.Test.YtkenbogkjoafjaaWideP
import Derived.Test.YtkenbogkjoafjaaPureA
import Derived.Test.YtkenbogkjoafjaaCEqual
import Derived.Test.YtkenbogkjoafjaaCFuncR
namespace Go.Proofs.Ytkenbogkjoafjaa
open Go.RowKit Fm
set_option linter.unusedVariables false

def T3 : List (List Int) := [[0, 3, 1], [1, 0, 4], [2, 0, 0]]
theorem t3_ok : tchk T3 = 0 := by decide
theorem t3_paths : pathM 3 T3 = [[0, 3, 3], [2, 0, 4], [2, 2, 0]] := by decide +kernel
theorem tabIn_smallW {w : World} {a : Option Addr} {n : Nat} {M : List (List Int)} (h : RdR w w.heap.size a n M) (hn : n ≤ 1000) (hl : ∀ l ∈ M, l.length ≤ 1000) : TabIn w a n M :=
  ⟨w.heap.size, Nat.le_refl _, h, by omega, fun l hl' => by have := hl l hl'; omega⟩

set_option maxHeartbeats 4000000 in
set_option maxRecDepth 100000 in
theorem wides_any (wP : WPaths) (w : World) :
    Calls Try.prog 13 #[] w fun e w' => e = .returned (.bool true) ∧ Below w.heap.size w w' := by
  have WP : Hid WPaths := wP
  clear wP
  have L1 := Lib.hid (lit3 w 3 26 [0, 3, 1] [1, 0, 4] [2, 0, 0] #[.int .i64 0, .int .i64 3, .int .i64 1] #[.int .i64 1, .int .i64 0, .int .i64 4] #[.int .i64 2, .int .i64 0, .int .i64 0] rfl rfl rfl (by decide) (by decide) (by decide))
  go_enter Try.func13, Try.ntmps13
  go_wp2_with fail
  obtain ⟨r1, b1⟩ := L1.out
  have q1 := WP.out (some ⟨w.heap.size + 1 + 1 + 1, 0, none⟩) 3 3 T3 _ (tabIn_smallW r1 (by decide) (by decide)) t3_ok
  refine q1.mono ?_
  rintro e w1 ⟨a1, c1, rfl, _, _, rt, hb1⟩
  rw [t3_paths] at rt ⊢
  have HB := Lib.hid (ext_trans b1 hb1)
  obtain ⟨b, o, a', c', rfl, hb, hcell, _, _, _, hrd⟩ := rt.at_ (k := 0) (by decide)
  rw [Nat.add_zero] at hcell
  have hcell' : w1.cell? ⟨b, o, none⟩ = some (.slice a' 3 c') := hcell
  have RD := Lib.hid (show Rd w1 w1.heap.size a' 3 [0, 3, 3] from hrd)
  clear q1 r1 b1 hb1 L1 rt hcell hrd
  have L3 := Lib.hid (Rd.lit w1 3 [0, 3, 3] #[.int .i64 0, .int .i64 3, .int .i64 3] rfl)
  have b4 : Below w1.heap.size w1 (w1.alloc (.cells #[.int .i64 0, .int .i64 3, .int .i64 3] 3)) := (Below.refl _ _).alloc (by omega) _
  have B4 := Lib.hid b4
  clear b4
  go_wp2_with fail
  have q3 := equal_ext [0, 3, 3] [0, 3, 3] a' (some ⟨w1.heap.size, 0, none⟩) 3 c' 3 3 (w1.alloc (.cells #[.int .i64 0, .int .i64 3, .int .i64 3] 3)) (rd_ext RD.out B4.out) (L3.out.more (by simp)) (by omega) (by omega)
  refine q3.mono ?_
  rintro e w4 ⟨rfl, hb4⟩
  have HB4 := Lib.hid (ext_trans HB.out (ext_trans B4.out hb4))
  clear q3 hb4 L3 HB B4 RD
  go_wp2
  go_ret
  exact ⟨rfl, HB4.out⟩

set_option maxHeartbeats 400000 in
set_option maxRecDepth 100000 in
theorem tableOf1_any (n : Nat) (l : List Int) (a' : Option Addr) (c' g : Nat) (w : World) (hx : w.cell? ⟨g, 0, none⟩ = some (.int .i64 n)) (hl : l.length = n) :
    Calls Try.prog 26 #[.slice a' l.length c', .pointer (some ⟨g, 0, none⟩)] w fun e w' => e = .returned (.bool false) ∧ Below w.heap.size w w' := by
  rw [hl]
  have hne : ((n : Int) != (n : Int)) = false := by simp
  clear hl
  go_enter Try.func26, Try.ntmps26
  go_wp2
  go_ret
  exact ⟨rfl, Below.refl _ w⟩

set_option maxHeartbeats 1000000 in
set_option maxRecDepth 100000 in
theorem tableOf_any (n : Nat) (P : List (List Int)) (a : Option Addr) (c : Nat) (w : World) (hn : n ≤ 1000) (hr : RdR w w.heap.size a n P) (hl : ∀ l ∈ P, l.length = n) :
    Calls Try.prog 14 #[.slice a n c, .int .i64 n] w fun e w' => e = .returned (.bool true) ∧ Below w.heap.size w w' := by
  have heq : ((n : Int) == (n : Int)) = true := by simp
  have hb : Below w.heap.size w (w.alloc (.cells #[.int .i64 n] 3)) := (Below.refl _ _).alloc (Nat.le_refl _) _
  have hcell : (w.alloc (.cells #[.int .i64 n] 3)).cell? ⟨w.heap.size, 0, none⟩ = some (.int .i64 n) := by simp [World.cell?_alloc_new]
  have hz : (w.alloc (.cells #[.int .i64 n] 3)).heap.size = w.heap.size + 1 := by simp
  have Q : Hid (∀ j, Calls Try.prog 25 #[.slice a n c, .func (.func 26) #[] #[.pointer (some ⟨w.heap.size, 0, none⟩)]] ((w.alloc (.cells #[.int .i64 n] 3)).drewN j) fun e w' => e = .returned (.bool false) ∧ Below w.heap.size w w') := fun j => by
    have h := containsFuncR_any 26 (fun _ _ => rfl) #[.pointer (some ⟨w.heap.size, 0, none⟩)] (fun _ => false) a n c P ((w.alloc (.cells #[.int .i64 n] 3)).drewN j) w.heap.size (by show w.heap.size ≤ (w.alloc (.cells #[.int .i64 n] 3)).heap.size; omega) ((hr.alloc (Nat.le_refl _) _).drewN j) (by omega) (fun l hl' a' c' w1 hb1 hrd => by
      refine tableOf1_any n l a' c' w.heap.size w1 ?_ (hl l hl')
      rw [hb1.cell (by show w.heap.size < (w.alloc (.cells #[.int .i64 n] 3)).heap.size; omega)]
      exact hcell)
    refine h.mono fun e w' ⟨h1, h2⟩ => ⟨by rw [h1]; congr 2; induction P with
      | nil => rfl
      | cons p P ih => simp, ext_trans (ext_drewN hb j) h2⟩
  clear hr hl hb hz
  go_enter Try.func14, Try.ntmps14
  go_wp2_with fail
  refine (Q.out 0).mono ?_
  rintro e w2 ⟨rfl, hb2⟩
  go_wp2
  go_ret
  exact ⟨rfl, hb2⟩
end Go.Proofs.Ytkenbogkjoafjaa

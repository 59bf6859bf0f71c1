/-
  The closure of plumekeep.DuelMcGarvey that asks whether a pair has been met: its answer; nothing that was there is written.
-/
import Derived.Test.YtbmefccljbndeaaCFuncR
import Derived.Test.YtbmefccljbndeaaMcgMath
import Derived.Test.YtbmefccljbndeaaOuts
import Derived.BigQuiet
import Derived.Deep.QuietTactic
namespace Go.Proofs.Ytbmefccljbndeaa
open Go.RowKit Fm
set_option linter.unusedVariables false

def isPair (x y : Int) (l : List Int) : Bool := l.getD 0 0 == x && l.getD 1 0 == y
theorem any_pair {L : List (List Int)} (hL : ∀ b ∈ L, b.length = 2) (x y : Int) : L.any (isPair x y) = decide ([x, y] ∈ L) := by
  by_cases h : [x, y] ∈ L
  · rw [decide_eq_true h, List.any_eq_true]
    exact ⟨[x, y], h, by simp [isPair]⟩
  · rw [decide_eq_false h, List.any_eq_false]
    intro b hb hp
    have hl := hL b hb
    match b, hl with
    | [u, v], _ =>
      simp [isPair] at hp
      obtain ⟨rfl, rfl⟩ := hp
      exact h hb

set_option maxHeartbeats 400000 in
set_option maxRecDepth 100000 in
theorem has11_any (x y : Int) (l : List Int) (a' : Option Addr) (c' g1 g2 : Nat) (w : World) (B : Nat) (hr : Rd w B a' 2 l) (hx : w.cell? ⟨g1, 0, none⟩ = some (.int .i64 x)) (hy : w.cell? ⟨g2, 0, none⟩ = some (.int .i64 y)) :
    Calls Try.prog 30 #[.slice a' 2 c', .pointer (some ⟨g1, 0, none⟩), .pointer (some ⟨g2, 0, none⟩)] w fun e w' => e = .returned (.bool (isPair x y l)) ∧ Below w.heap.size w w' := by
  obtain ⟨bb, o, rfl, hb, hc⟩ := hr.2 (by omega)
  have c0 := hc 0 (by omega)
  have c1 := hc 1 (by omega)
  clear hc hr
  rw [Nat.add_zero] at c0
  by_cases h0 : l.getD 0 0 = x
  · have hb0 : (l.getD 0 0 == x) = true := by simpa using h0
    obtain ⟨r, hr⟩ : ∃ r, (l.getD 1 0 == y) = r := ⟨_, rfl⟩
    have HP : Hid (isPair x y l = r) := by show _ = _; unfold isPair; rw [hb0, hr]; rfl
    clear h0
    generalize isPair x y l = res at *
    generalize l.getD 0 0 = y0 at *
    generalize l.getD 1 0 = y1 at *
    go_enter Try.func30, Try.ntmps30
    go_wp2_with fail
    go_quiet (fail)
    go_wp2
    go_ret
    exact ⟨by rw [HP.out]; rfl, below_drewN (Below.refl _ w) _⟩
  · have hb0 : (l.getD 0 0 == x) = false := by simpa using h0
    have HP : Hid (isPair x y l = false) := by show _ = _; unfold isPair; rw [hb0]; rfl
    clear h0
    generalize isPair x y l = res at *
    generalize l.getD 0 0 = y0 at *
    generalize l.getD 1 0 = y1 at *
    go_enter Try.func30, Try.ntmps30
    go_wp2_with fail
    go_quiet (fail)
    go_wp2
    go_ret
    exact ⟨by rw [HP.out]; rfl, below_drewN (Below.refl _ w) _⟩

set_option maxHeartbeats 1000000 in
set_option maxRecDepth 100000 in
theorem has_any (x y : Int) (L : List (List Int)) (a : Option Addr) (m c g : Nat) (w : World) (hr : RdR w w.heap.size a m L) (hm : m ≤ 1000000) (hL : ∀ b ∈ L, b.length = 2) (hg : w.cell? ⟨g, 0, none⟩ = some (.slice a m c)) (hgl : g < w.heap.size) :
    Calls Try.prog 28 #[.int .i64 x, .int .i64 y, .pointer (some ⟨g, 0, none⟩)] w fun e w' => e = .returned (.bool (decide ([x, y] ∈ L))) ∧ Below w.heap.size w w' := by
  obtain ⟨W, hW⟩ : ∃ W : World, W = (w.alloc (.cells #[.int .i64 x] 3)).alloc (.cells #[.int .i64 y] 3) := ⟨_, rfl⟩
  have zW : W.heap.size = w.heap.size + 2 := by rw [hW]; simp
  have bW : Below w.heap.size w W := by rw [hW]; exact ((Below.refl _ w).alloc (Nat.le_refl _) _).alloc (by simp) _
  have cx : W.cell? ⟨w.heap.size, 0, none⟩ = some (.int .i64 x) := by
    rw [hW, World.cell?_alloc_lt _ _ _ (by simp), World.cell?_alloc_new]; rfl
  have cy : W.cell? ⟨w.heap.size + 1, 0, none⟩ = some (.int .i64 y) := by
    rw [hW]
    have e : w.heap.size + 1 = (w.alloc (.cells #[.int .i64 x] 3)).heap.size := by simp
    rw [e, World.cell?_alloc_new]; rfl
  have hT : TellsR 30 #[.pointer (some ⟨w.heap.size, 0, none⟩), .pointer (some ⟨w.heap.size + 1, 0, none⟩)] L (isPair x y) W W.heap.size := fun l hl a' c' w1 hb1 hrd => by
    rw [hL l hl] at hrd ⊢
    exact has11_any x y l a' c' _ _ w1 W.heap.size hrd ((hb1.cell (by show w.heap.size < _; omega)).trans cx) ((hb1.cell (by show w.heap.size + 1 < _; omega)).trans cy)
  have Q := containsFuncR_any 30 (fun _ _ => rfl) #[.pointer (some ⟨w.heap.size, 0, none⟩), .pointer (some ⟨w.heap.size + 1, 0, none⟩)] (isPair x y) a m c L W W.heap.size (Nat.le_refl _) (rdr_ext hr bW) (by omega) hT
  rw [any_pair hL] at Q
  rw [hW] at Q bW
  have HQ := Lib.hid Q
  have HB := Lib.hid bW
  clear Q hT cx cy bW zW hW hr hL
  generalize decide ([x, y] ∈ L) = r at *
  go_enter Try.func28, Try.ntmps28
  go_wp2_with fail
  refine HQ.out.mono ?_
  rintro e w2 ⟨rfl, hb2⟩
  have hbe := ext_trans HB.out hb2
  clear HQ HB hb2
  go_wp2
  go_ret
  exact ⟨rfl, hbe⟩
end Go.Proofs.Ytbmefccljbndeaa

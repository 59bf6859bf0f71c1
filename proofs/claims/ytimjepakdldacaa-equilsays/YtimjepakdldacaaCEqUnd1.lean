/-
  The innermost closures of equil.Left: what a player gets; whether one line has no more than another at a line of the other player. Nothing that was there is written.
-/
import Derived.Test.YtimjepakdldacaaCFuncI
import Derived.Test.YtimjepakdldacaaEquilP
import Derived.Test.YtimjepakdldacaaSqPay
import Derived.BigQuiet
import Derived.Deep.QuietTactic
namespace Go.Proofs.Ytimjepakdldacaa
open Go.RowKit Fm
set_option linter.unusedVariables false

/-- The function of number k tells f, in whatever world that keeps what was there. -/
def PayTells (k g n m : Nat) (f : Nat → Nat → Int) (w : World) : Prop :=
  ∀ x o : Nat, x < n → o < m → ∀ W, Below w.heap.size w W → Calls Try.prog k #[.int .i64 x, .int .i64 o, .pointer (some ⟨g, 0, none⟩)] W fun e w' => e = .returned (.int .i64 (f x o)) ∧ W = w'

theorem left1_tells {r k : Nat} {M : List (List Int)} (p : Pay r k M) (a : Option Addr) (n c g : Nat) (w : World) (hr : RdR w w.heap.size a n M) (hg : g < w.heap.size) (hc : w.cell? ⟨g, 0, none⟩ = some (.slice a n c)) :
    PayTells 30 g r k (ent M) w := by
  intro x o hx ho W hW
  obtain ⟨rfl, b, ob, rfl, hb, hsq⟩ := rdr_sqP hr p
  obtain ⟨b', o', c', hb', h1, _, _, h2⟩ := hsq x hx
  have q0 := (hW.cell (p := ⟨g, 0, none⟩) (by exact hg)).trans hc
  have q1 := (hW.cell (p := ⟨b, ob + x, none⟩) (by exact hb)).trans h1
  have q2 := (hW.cell (p := ⟨b', o' + o, none⟩) (by exact hb')).trans (h2 o ho)
  clear h1 h2 hsq hr hc hW
  generalize ent M x o = z at *
  go_enter Try.func30, Try.ntmps30
  go_wp2
  go_ret
  exact ⟨rfl, rfl⟩

theorem left2_tells {r k : Nat} {M : List (List Int)} (p : Pay r k M) (a : Option Addr) (n c g : Nat) (w : World) (hr : RdR w w.heap.size a n M) (hg : g < w.heap.size) (hc : w.cell? ⟨g, 0, none⟩ = some (.slice a n c)) :
    PayTells 31 g k r (ent (colsM k M)) w := by
  intro o x ho hx W hW
  obtain ⟨rfl, b, ob, rfl, hb, hsq⟩ := rdr_sqP hr p
  obtain ⟨b', o', c', hb', h1, _, _, h2⟩ := hsq x hx
  have q0 := (hW.cell (p := ⟨g, 0, none⟩) (by exact hg)).trans hc
  have q1 := (hW.cell (p := ⟨b, ob + x, none⟩) (by exact hb)).trans h1
  have q2 := (hW.cell (p := ⟨b', o' + o, none⟩) (by exact hb')).trans (h2 o ho)
  rw [cols_ent p hx ho]
  clear h1 h2 hsq hr hc hW
  generalize ent M x o = z at *
  go_enter Try.func31, Try.ntmps31
  go_wp2
  go_ret
  exact ⟨rfl, rfl⟩

/-- A line x has no more than a line y at o. -/
theorem inner1 {n m : Nat} {f : Nat → Nat → Int} (g g3 g4 g5 : Nat) (x y o : Nat) (hx : x < n) (hy : y < n) (ho : o < m) (w : World) (hp : PayTells 30 g n m f w)
    (h3 : w.cell? ⟨g3, 0, none⟩ = some (.func (.func 30) #[] #[.pointer (some ⟨g, 0, none⟩)])) (h4 : w.cell? ⟨g4, 0, none⟩ = some (.int .i64 x)) (h5 : w.cell? ⟨g5, 0, none⟩ = some (.int .i64 y)) :
    Calls Try.prog 53 #[.int .i64 o, .pointer (some ⟨g3, 0, none⟩), .pointer (some ⟨g4, 0, none⟩), .pointer (some ⟨g5, 0, none⟩)] w fun e w' => e = .returned (.bool (decide (f x o ≤ f y o))) ∧ Below w.heap.size w w' := by
  have QX : Hid (∀ j, Calls Try.prog 30 #[.int .i64 x, .int .i64 o, .pointer (some ⟨g, 0, none⟩)] (w.drewN j) fun e w' => e = .returned (.int .i64 (f x o)) ∧ w' = w.drewN j) := fun j => (hp x o hx ho _ (below_drewN (Below.refl _ w) j)).mono fun _ _ h => ⟨h.1, h.2.symm⟩
  have QY : Hid (∀ j, Calls Try.prog 30 #[.int .i64 y, .int .i64 o, .pointer (some ⟨g, 0, none⟩)] (w.drewN j) fun e w' => e = .returned (.int .i64 (f y o)) ∧ w' = w.drewN j) := fun j => (hp y o hy ho _ (below_drewN (Below.refl _ w) j)).mono fun _ _ h => ⟨h.1, h.2.symm⟩
  clear hp hx hy ho
  generalize f x o = z1 at *
  generalize f y o = z2 at *
  go_enter Try.func53, Try.ntmps53
  go_wp2_with fail
  go_quiet ((first | (go_at_call 30; with_reducible exact Calls.quiet_of_same (QX.out _)) | (go_at_call 30; with_reducible exact Calls.quiet_of_same (QY.out _))))
  go_wp2
  go_ret
  exact ⟨rfl, below_drewN (Below.refl _ _) _⟩

/-- A line x has no more than a line y at o. -/
theorem inner2 {n m : Nat} {f : Nat → Nat → Int} (g g3 g4 g5 : Nat) (x y o : Nat) (hx : x < n) (hy : y < n) (ho : o < m) (w : World) (hp : PayTells 31 g n m f w)
    (h3 : w.cell? ⟨g3, 0, none⟩ = some (.func (.func 31) #[] #[.pointer (some ⟨g, 0, none⟩)])) (h4 : w.cell? ⟨g4, 0, none⟩ = some (.int .i64 x)) (h5 : w.cell? ⟨g5, 0, none⟩ = some (.int .i64 y)) :
    Calls Try.prog 53 #[.int .i64 o, .pointer (some ⟨g3, 0, none⟩), .pointer (some ⟨g4, 0, none⟩), .pointer (some ⟨g5, 0, none⟩)] w fun e w' => e = .returned (.bool (decide (f x o ≤ f y o))) ∧ Below w.heap.size w w' := by
  have QX : Hid (∀ j, Calls Try.prog 31 #[.int .i64 x, .int .i64 o, .pointer (some ⟨g, 0, none⟩)] (w.drewN j) fun e w' => e = .returned (.int .i64 (f x o)) ∧ w' = w.drewN j) := fun j => (hp x o hx ho _ (below_drewN (Below.refl _ w) j)).mono fun _ _ h => ⟨h.1, h.2.symm⟩
  have QY : Hid (∀ j, Calls Try.prog 31 #[.int .i64 y, .int .i64 o, .pointer (some ⟨g, 0, none⟩)] (w.drewN j) fun e w' => e = .returned (.int .i64 (f y o)) ∧ w' = w.drewN j) := fun j => (hp y o hy ho _ (below_drewN (Below.refl _ w) j)).mono fun _ _ h => ⟨h.1, h.2.symm⟩
  clear hp hx hy ho
  generalize f x o = z1 at *
  generalize f y o = z2 at *
  go_enter Try.func53, Try.ntmps53
  go_wp2_with fail
  go_quiet ((first | (go_at_call 31; with_reducible exact Calls.quiet_of_same (QX.out _)) | (go_at_call 31; with_reducible exact Calls.quiet_of_same (QY.out _))))
  go_wp2
  go_ret
  exact ⟨rfl, below_drewN (Below.refl _ _) _⟩
end Go.Proofs.Ytimjepakdldacaa

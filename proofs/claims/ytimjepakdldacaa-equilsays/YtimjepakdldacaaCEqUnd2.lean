/-
  The closures of equil.undominated: whether one line has more than another at each line of the other player that is left. Nothing that was there is written.
-/
import Derived.Test.YtimjepakdldacaaCEqUnd1
import Derived.Test.YtimjepakdldacaaCKept
namespace Go.Proofs.Ytimjepakdldacaa
open Go.RowKit Fm
set_option linter.unusedVariables false

/-- The innermost closure tells whether x has no more than y at o. -/
def InnerTells (g3 n m : Nat) (f : Nat → Nat → Int) (w : World) : Prop :=
  ∀ (g4 g5 x y o : Nat), x < n → y < n → o < m → ∀ W, Below w.heap.size w W → W.cell? ⟨g4, 0, none⟩ = some (.int .i64 x) → W.cell? ⟨g5, 0, none⟩ = some (.int .i64 y) →
    Calls Try.prog 53 #[.int .i64 o, .pointer (some ⟨g3, 0, none⟩), .pointer (some ⟨g4, 0, none⟩), .pointer (some ⟨g5, 0, none⟩)] W fun e w' => e = .returned (.bool (decide (f x o ≤ f y o))) ∧ Below W.heap.size W w'

theorem PayTells.below {k g n m : Nat} {f : Nat → Nat → Int} {w w' : World} (h : PayTells k g n m f w) (hb : Below w.heap.size w w') : PayTells k g n m f w' := fun x o hx ho W hW => h x o hx ho W (ext_trans hb hW)
theorem InnerTells.below {g n m : Nat} {f : Nat → Nat → Int} {w w' : World} (h : InnerTells g n m f w) (hb : Below w.heap.size w w') : InnerTells g n m f w' := fun g4 g5 x y o hx hy ho W hW => h g4 g5 x y o hx hy ho W (ext_trans hb hW)
theorem innerTells1 {g g3 n m : Nat} {f : Nat → Nat → Int} {w : World} (hp : PayTells 30 g n m f w) (h3 : g3 < w.heap.size) (c3 : w.cell? ⟨g3, 0, none⟩ = some (.func (.func 30) #[] #[.pointer (some ⟨g, 0, none⟩)])) : InnerTells g3 n m f w :=
  fun g4 g5 x y o hx hy ho W hW c4 c5 => inner1 g g3 g4 g5 x y o hx hy ho W (hp.below hW) ((hW.cell (by exact h3)).trans c3) c4 c5
theorem innerTells2 {g g3 n m : Nat} {f : Nat → Nat → Int} {w : World} (hp : PayTells 31 g n m f w) (h3 : g3 < w.heap.size) (c3 : w.cell? ⟨g3, 0, none⟩ = some (.func (.func 31) #[] #[.pointer (some ⟨g, 0, none⟩)])) : InnerTells g3 n m f w :=
  fun g4 g5 x y o hx hy ho W hW c4 c5 => inner2 g g3 g4 g5 x y o hx hy ho W (hp.below hW) ((hW.cell (by exact h3)).trans c3) c4 c5

/-- The line x has more than the line y at each of q. -/
def moreF (f : Nat → Nat → Int) (q : List Int) (x y : Nat) : Bool := !(q.any fun o => decide (f x o.toNat ≤ f y o.toNat))
theorem moreF_ent (M : List (List Int)) (q : List Int) (x y : Nat) : moreF (ent M) q x y = moreL M q x y := by
  unfold moreF moreL
  rw [List.not_any_eq_all_not]
  congr 1
  funext o
  rw [Int.toNat_natCast, Int.toNat_natCast]
  by_cases h : ent M x o.toNat ≤ ent M y o.toNat
  · rw [decide_eq_true h, decide_eq_false (by omega)]; rfl
  · rw [decide_eq_false h, decide_eq_true (by omega)]; rfl

/-- Two ints in boxes of their own. -/
theorem box2I (w : World) (t : Nat) (x y : Int) : ((w.alloc (.cells #[.int .i64 x] t)).alloc (.cells #[.int .i64 y] t)).cell? ⟨w.heap.size, 0, none⟩ = some (.int .i64 x) ∧ ((w.alloc (.cells #[.int .i64 x] t)).alloc (.cells #[.int .i64 y] t)).cell? ⟨w.heap.size + 1, 0, none⟩ = some (.int .i64 y) ∧ Below w.heap.size w ((w.alloc (.cells #[.int .i64 x] t)).alloc (.cells #[.int .i64 y] t)) := by
  refine ⟨by rw [World.cell?_alloc_lt _ _ _ (by simp), World.cell?_alloc_new]; rfl, ?_, ((Below.refl _ w).alloc (Nat.le_refl _) _).alloc (by simp) _⟩
  have : w.heap.size + 1 = (w.alloc (.cells #[.int .i64 x] t)).heap.size := by simp
  rw [this, World.cell?_alloc_new]; rfl

set_option maxHeartbeats 1000000 in
set_option maxRecDepth 100000 in
theorem dom_any {g2 g3 n m : Nat} {f : Nat → Nat → Int} {q : List Int} (a : Option Addr) (c x y : Nat) (hx : x < n) (hy : y < n) (w : World) (B : Nat) (hB : B ≤ w.heap.size) (hg2 : g2 < w.heap.size) (hr : Rd w B a q.length q) (hq : ∀ o ∈ q, 0 ≤ o ∧ o < m) (hq6 : q.length ≤ 6) (hi : InnerTells g3 n m f w) (c2 : w.cell? ⟨g2, 0, none⟩ = some (.slice a q.length c)) :
    Calls Try.prog 51 #[.int .i64 x, .int .i64 y, .pointer (some ⟨g2, 0, none⟩), .pointer (some ⟨g3, 0, none⟩)] w fun e w' => e = .returned (.bool (moreF f q x y)) ∧ Below w.heap.size w w' := by
  obtain ⟨b1, b2, b3⟩ := box2I w 3 x y
  have t2 := (b3.cell (p := ⟨g2, 0, none⟩) (by show g2 < _; omega)).trans c2
  have HR : Hid (Rd ((w.alloc (.cells #[.int .i64 x] 3)).alloc (.cells #[.int .i64 y] 3)) w.heap.size a q.length q) := (hr.more hB).below b3 (Nat.le_refl _)
  have HT : Hid (Tells 53 #[.pointer (some ⟨g3, 0, none⟩), .pointer (some ⟨w.heap.size, 0, none⟩), .pointer (some ⟨w.heap.size + 1, 0, none⟩)] q (fun o => decide (f x o.toNat ≤ f y o.toNat)) ((w.alloc (.cells #[.int .i64 x] 3)).alloc (.cells #[.int .i64 y] 3))) := by
    intro o ho W hW
    have h := hq o ho
    obtain ⟨z, rfl⟩ : ∃ z : Nat, o = z := ⟨o.toNat, by omega⟩
    exact hi _ _ x y z hx hy (by omega) W (ext_trans b3 hW) ((hW.cell (by show w.heap.size < _; simp; omega)).trans b1) ((hW.cell (by show w.heap.size + 1 < _; simp)).trans b2)
  have HM : Hid (moreF f q x y = !(q.any fun o => decide (f x o.toNat ≤ f y o.toNat))) := rfl
  have HS : Hid (w.heap.size ≤ ((w.alloc (.cells #[.int .i64 x] 3)).alloc (.cells #[.int .i64 y] 3)).heap.size) := by show _ ≤ _; simp; omega
  have HB3 := Lib.hid b3
  clear hr hi hq b1 b2 b3 c2
  generalize moreF f q x y = res at *
  go_enter Try.func51, Try.ntmps51
  go_wp2_with fail
  refine (containsFuncI_any _ (fun _ _ => rfl) _ _ a _ c q _ _ HS.out HR.out (by omega) HT.out).mono ?_
  rintro e w1 ⟨rfl, hb⟩
  have hbw := ext_trans HB3.out hb
  clear HR HT HS HB3 hb t2
  generalize (q.any fun o => decide (f x o.toNat ≤ f y o.toNat)) = bb at *
  go_wp2
  go_ret
  exact ⟨by rw [HM.out]; rfl, hbw⟩

/-- The closure that tells who has more. -/
def DomTells (g2 g3 n : Nat) (f : Nat → Nat → Int) (q : List Int) (w : World) : Prop :=
  ∀ x y : Nat, x < n → y < n → ∀ W, Below w.heap.size w W → Calls Try.prog 51 #[.int .i64 x, .int .i64 y, .pointer (some ⟨g2, 0, none⟩), .pointer (some ⟨g3, 0, none⟩)] W fun e w' => e = .returned (.bool (moreF f q x y)) ∧ Below W.heap.size W w'

set_option maxHeartbeats 1000000 in
set_option maxRecDepth 100000 in
theorem worse_any {g2 g3 g7 g10 n : Nat} {f : Nat → Nat → Int} {q : List Int} (x y : Nat) (hx : x < n) (hy : y < n) (w : World) (hd : DomTells g2 g3 n f q w)
    (c7 : w.cell? ⟨g7, 0, none⟩ = some (.func (.func 51) #[] #[.pointer (some ⟨g2, 0, none⟩), .pointer (some ⟨g3, 0, none⟩)])) (c10 : w.cell? ⟨g10, 0, none⟩ = some (.int .i64 y)) :
    Calls Try.prog 54 #[.int .i64 x, .pointer (some ⟨g7, 0, none⟩), .pointer (some ⟨g10, 0, none⟩)] w fun e w' => e = .returned (.bool (moreF f q x y)) ∧ Below w.heap.size w w' := by
  have HD := Lib.hid (hd x y hx hy w (Below.refl _ w))
  clear hd
  generalize moreF f q x y = res at *
  go_enter Try.func54, Try.ntmps54
  go_wp2_with fail
  refine HD.out.mono ?_
  rintro e w1 ⟨rfl, hb⟩
  clear HD c7 c10
  go_wp2
  go_ret
  exact ⟨rfl, hb⟩
end Go.Proofs.Ytimjepakdldacaa

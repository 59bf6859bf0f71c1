/-
  slices.Reverse of a slice of slices of the caller's own: what it writes.
-/
import Derived.Test.YtammnnhdhdeogaaProg
import Derived.Test.YtammnnhdhdeogaaRows2
import Derived.RegionTactic
import Derived.BigRegion
import Derived.WalkKit
import Derived.KernelRfl
import Derived.Laws.NewBlocks
namespace Go.Proofs.Ytammnnhdhdeogaa
open Go.RowKit Fm
set_option linter.unusedVariables false

/-- The first k and the last k exchanged. -/
def revTo (xs : List Value) (k : Nat) : List Value := (List.range xs.length).map fun p => if p < k ∨ xs.length - k ≤ p then xs.getD (xs.length - 1 - p) (.slice none 0 0) else xs.getD p (.slice none 0 0)
theorem revTo_len (xs : List Value) (k : Nat) : (revTo xs k).length = xs.length := by simp [revTo]
theorem revTo_at (xs : List Value) (k : Nat) {p : Nat} (hp : p < xs.length) : (revTo xs k)[p]? = some (if p < k ∨ xs.length - k ≤ p then xs.getD (xs.length - 1 - p) (.slice none 0 0) else xs.getD p (.slice none 0 0)) := by
  unfold revTo
  rw [List.getElem?_map, List.getElem?_range hp]; rfl
theorem revTo_zero (xs : List Value) : revTo xs 0 = xs := by
  apply List.ext_getElem?
  intro p
  by_cases hp : p < xs.length
  · rw [revTo_at xs 0 hp, if_neg (by omega), List.getD_eq_getElem?_getD, List.getElem?_eq_getElem hp]; rfl
  · rw [List.getElem?_eq_none (by rw [revTo_len]; omega), List.getElem?_eq_none (by omega)]
theorem revTo_end (xs : List Value) (k : Nat) (h : xs.length ≤ 2 * k + 1) : revTo xs k = xs.reverse := by
  apply List.ext_getElem?
  intro p
  by_cases hp : p < xs.length
  · rw [revTo_at xs k hp, List.getElem?_reverse hp, List.getElem?_eq_getElem (by omega)]
    by_cases hc : p < k ∨ xs.length - k ≤ p
    · rw [if_pos hc, List.getD_eq_getElem?_getD, List.getElem?_eq_getElem (by omega)]; rfl
    · rw [if_neg hc, List.getD_eq_getElem?_getD, List.getElem?_eq_getElem hp]
      have : xs.length - 1 - p = p := by omega
      simp [this]
  · rw [List.getElem?_eq_none (by rw [revTo_len]; omega), List.getElem?_eq_none (by simp; omega)]
theorem revTo_set (xs : List Value) (k : Nat) (h : 2 * k + 1 < xs.length) : ((revTo xs k).set k (xs.getD (xs.length - 1 - k) (.slice none 0 0))).set (xs.length - 1 - k) (xs.getD k (.slice none 0 0)) = revTo xs (k + 1) := by
  apply List.ext_getElem?
  intro p
  by_cases hp : p < xs.length
  · rw [List.getElem?_set, List.getElem?_set, List.length_set, revTo_len, revTo_at xs (k + 1) hp]
    by_cases h1 : xs.length - 1 - k = p
    · rw [if_pos h1, if_pos (by omega), if_pos (by omega)]
      have : xs.length - 1 - p = k := by omega
      rw [this]
    · rw [if_neg h1]
      by_cases h2 : k = p
      · subst h2
        rw [if_pos rfl, if_pos hp, if_pos (by omega)]
      · rw [if_neg h2, revTo_at xs k hp]
        by_cases h3 : p < k ∨ xs.length - k ≤ p
        · rw [if_pos h3, if_pos (by omega)]
        · rw [if_neg h3, if_neg (by omega)]
  · rw [List.getElem?_eq_none (by simp [revTo_len]; omega), List.getElem?_eq_none (by rw [revTo_len]; omega)]

set_option maxHeartbeats 1000000 in
theorem reverseR_own (base g n cap : Nat) (xs : List Value) (w : World) (hown : w.ownsRow base 26 1 (.slice (some ⟨g, 0, none⟩) n cap) n xs) (hn : n ≤ 1000000) (hxs : ∀ j, j < n → ∃ a l c, xs.getD j (.slice none 0 0) = .slice a l c) :
    Calls Try.prog 26 #[.slice (some ⟨g, 0, none⟩) n cap] w fun e w' =>
      e = .returned (.tuple #[]) ∧ w'.ownsRow base 26 1 (.slice (some ⟨g, 0, none⟩) n cap) n xs.reverse ∧ w.grownBy w' (some g) := by
  have hl : xs.length = n := by have := hown.1; omega
  have HL := Lib.hid hl
  have HX := Lib.hid hxs
  clear hl hxs
  have h0 : w.ownsRow base 26 1 (.slice (some ⟨g, 0, none⟩) n cap) n (revTo xs 0) := by rw [revTo_zero]; exact hown
  clear hown
  go_enter Try.func26, Try.ntmps26
  go_wp2_with fail
  go_loopw [2, 3] (fun s2 s3 wr => ∃ k : Nat, k ≤ n ∧ s2 = .int .i64 k ∧ s3 = .int .i64 ((n : Int) - 1 - k) ∧ 2 * k ≤ n + 1 ∧ wr.ownsRow base 26 1 (.slice (some ⟨g, 0, none⟩) n cap) n (revTo xs k) ∧ w.grownBy wr (some g)) (fun s2 _ _ => n - (intOf s2).toNat)
  case atStart => exact ⟨0, Nat.zero_le _, rfl, by simp, by omega, h0, grown_refl w _⟩
  case round =>
    obtain ⟨k, hk, rfl, rfl, hk2, hown, hgr⟩ := hrel
    clear h0
    by_cases hlt : 2 * k + 1 < n
    · obtain ⟨a1, l1, c1, e1⟩ := HX.out k (by omega)
      obtain ⟨a2, l2, c2, e2⟩ := HX.out (n - 1 - k) (by omega)
      have d1 : wr.cell? ⟨g, k, none⟩ = some (.slice a1 l1 c1) := by
        rw [hown.cellAt k (by omega), revTo_at xs k (by rw [HL.out]; omega), if_neg (by rw [HL.out]; omega), e1]
      have d2 : wr.cell? ⟨g, n - 1 - k, none⟩ = some (.slice a2 l2 c2) := by
        rw [hown.cellAt (n - 1 - k) (by omega), revTo_at xs k (by rw [HL.out]; omega), if_neg (by rw [HL.out]; omega), e2]
      have f1 := hown.frozenAt k
      have f2 := hown.frozenAt (n - 1 - k)
      obtain ⟨q, hq⟩ : ∃ q : Nat, q = n - 1 - k := ⟨_, rfl⟩
      have hqk : k < q := by omega
      have hqn : q < n := by omega
      have s1 := hown.stored k (.slice a2 l2 c2)
      have s2 := s1.1.stored q (.slice a1 l1 c1)
      have es : ((revTo xs k).set k (.slice a2 l2 c2)).set q (.slice a1 l1 c1) = revTo xs (k + 1) := by
        rw [← revTo_set xs k (by rw [HL.out]; omega), HL.out, ← hq, e1, hq, e2]
      rw [es] at s2
      rw [← hq] at d2 f2
      have hcast : (n : Int) - 1 - (k : Int) = (q : Int) := by omega
      rw [hcast]
      have HQ := Lib.hid hq
      clear hq es e1 e2 hcast
      have g3 := grown_trans (grown_trans hgr s1.2) s2.2
      have o3 := s2.1
      clear s1 s2 hown hgr
      have b1 : (k : Int) < (n : Int) := by omega
      have b2 : (q : Int) < (n : Int) := by omega
      have b3 : (k : Int) < (q : Int) := by omega
      go_wp2_with fail
      go_region
      go_wp2
      go_roundw
      case rel => exact ⟨k + 1, by omega, by go_num, by have := HQ.out; congr 1; omega, by omega, o3, ⟨g3.os, g3.tape, g3.output, g3.size, g3.block⟩⟩
      case measure => simp [intOf]; omega
    · rw [revTo_end xs k (by rw [HL.out]; omega)] at hown
      have b1 : ¬ (k : Int) < (n : Int) - 1 - k := by omega
      go_wp2
      go_end0
      exact ⟨rfl, hown, hgr⟩
end Go.Proofs.Ytammnnhdhdeogaa

/-
  slices.SortStableFunc on a row of parts with the comparison of plumeref.SharesOf: the row sorted, equals in the order in which they lay; nothing else that was there is written.
-/
import Derived.Test.YtedllchlhdjanaaCPart
namespace Go.Proofs.Ytedllchlhdjanaa
open Go.Shelf Go.RowKit Go.Lib Go.Sort Fm
set_option linter.unusedVariables false

def LP (l : List P3) (e : Nat) : P3 := l.getD e (0, 0, 1)
theorem own3_cell {w : World} {B g n cap : Nat} {l : List P3} (h : w.ownsRow B 44 3 (.slice (some ⟨g, 0, none⟩) n cap) n (F3 l)) : l.length = n ∧ g < w.heap.size ∧ ∀ i c, i < n → c < 3 → w.cell? ⟨g, i * 3 + c, none⟩ = (F1 (LP l i))[c]? := by
  obtain ⟨h0, h⟩ := h
  have hl : l.length = n := by rw [F3_len] at h0; omega
  rcases h with ⟨h, _⟩ | ⟨g', cap', cur, hv, hb, hg, hnc, hm, hsz, ht⟩
  · cases h
  · injection hv with hv1 hv2 hv3
    injection hv1 with hv1
    injection hv1 with hv1
    subst hv1
    refine ⟨hl, (Array.getElem?_eq_some_iff.1 hg).1, fun i c hi hc => ?_⟩
    rw [cell_of_row w g (i * 3 + c) cur _ (0, 0) hg]
    have h1 : (cur.toList.take (n * 3))[i * 3 + c]? = (F3 l)[i * 3 + c]? := by rw [ht]
    rw [List.getElem?_take, if_pos (by omega)] at h1
    rw [← Array.getElem?_toList, h1, F3_at l i c (by omega) hc]
    rfl
theorem row0_of {w : World} {B g n cap : Nat} {l : List P3} (h : w.ownsRow B 44 3 (.slice (some ⟨g, 0, none⟩) n cap) n (F3 l)) : Row0 (fun e => F1 (LP l e)) 3 w g n := by
  obtain ⟨hl, hg, hc⟩ := own3_cell h
  refine ⟨⟨fun _ => rfl, fun x v hv => ?_, fun j hj => ?_, hg⟩⟩
  · unfold F1 at hv; simp at hv; rcases hv with rfl | rfl | rfl <;> rfl
  · rw [size_flatK, arr_size] at hj
    rw [get_flatK _ _ _ _ (by rw [arr_size]; exact hj), arr_at n _ (by omega), Nat.zero_add]
    refine ⟨?_, h.frozenAt j⟩
    have q := hc (j / 3) (j % 3) (by omega) (by omega)
    rw [show j / 3 * 3 + j % 3 = j by omega] at q
    rw [q]
    have : j % 3 < (F1 (LP l (j / 3))).length := by unfold F1; simp; omega
    show (F1 (LP l (j / 3)))[j % 3]? = some ((F1 (LP l (j / 3)))[j % 3]!)
    rw [List.getElem?_eq_getElem this, getElem!_pos (F1 (LP l (j / 3))) (j % 3) this]

/-- What the sort leaves. -/
def SortOut (lt : Nat → Nat → Prop) (l : List P3) (g n : Nat) (w : World) (e : Ending) (w' : World) : Prop :=
  e = .returned (.tuple #[]) ∧ ∃ s, Seg lt 0 n s ∧ (∀ i c, i < n → c < 3 → w'.cell? ⟨g, i * 3 + c, none⟩ = (F1 (LP l (s i)))[c]?) ∧ w.grownBy w' (some g)

set_option maxHeartbeats 400000 in
set_option maxRecDepth 100000 in
theorem sortP_any {w : World} {B g n cap : Nat} {l : List P3} (h : w.ownsRow B 44 3 (.slice (some ⟨g, 0, none⟩) n cap) n (F3 l)) (hn0 : 0 < n) (hn : n ≤ 10000)
    (hb : ∀ e, 0 ≤ (LP l e).2.1 ∧ (LP l e).2.1 ≤ 100000000 ∧ 0 ≤ (LP l e).2.2 ∧ (LP l e).2.2 ≤ 1000) {lt : Nat → Nat → Prop} (O : CmpLt (cfP (LP l)) lt) :
    Calls Try.prog 25 #[.slice (some ⟨g, 0, none⟩) n cap, .func (.func 26) #[] #[]] w (SortOut lt l g n w) := by
  have R := row0_of h
  obtain ⟨_, hg, _⟩ := own3_cell h
  have S : SW (fun e => F1 (LP l e)) 3 w g n id w := ⟨SWK.start R.row.hH⟩
  have C : Cmp0 Try.prog (fun e => F1 (LP l e)) 3 w g n 26 (cfP (LP l)) := by
    refine ⟨fun m os dk _ x y => ?_, fun _ _ => rfl⟩
    obtain ⟨a1, a2, a3, a4⟩ := hb x
    obtain ⟨b1, b2, b3, b4⟩ := hb y
    exact cmpP_any (LP l x) (LP l y) _ a1 a2 a3 a4 b1 b2 b3 b4
  have Q := Lib.hid (stStab_any ly R C O hn0 (by omega) cap S)
  have HR := Lib.hid R
  clear S C O R h hb
  go_enter Try.func25, Try.ntmps25
  go_wp2_with fail
  refine Q.out.mono ?_
  rintro e w' ⟨rfl, s, S, T⟩
  have HS := Lib.hid S
  have HT := Lib.hid T
  clear Q S T
  go_wp2
  go_end0
  refine ⟨rfl, s, HT.out, fun i c hi hc => ?_, ?_⟩
  · have q := (HS.out.sw.holds HR.out.row.hblk HR.out.row.hH (by rw [arr_size, arr_size])).cell (i := i) (c := c) (by rw [arr_size]; exact hi) hc
    rw [arr_at n _ hi, Nat.zero_add] at q
    rw [q.1]
    have : c < (F1 (LP l (s i))).length := hc
    rw [List.getElem?_eq_getElem this, getElem!_pos (F1 (LP l (s i))) c this]
  · obtain ⟨m, os, rfl⟩ := HS.out.sw
    unfold sortWorldK putRowK
    have g1 := putRow_grown id w m g 0 (flatK (fun e => F1 (LP l e)) 3 (arr n s))
    have g2 := below_grow (Sort.putRow id (Sort.ahead w m) g 0 (flatK (fun e => F1 (LP l e)) 3 (arr n s))) os
    exact ⟨g2.os.trans g1.os, g2.tape.trans g1.tape, g2.output.trans g1.output, Nat.le_trans g1.size g2.size, fun k hk hne => (g2.block k (Nat.lt_of_lt_of_le hk g1.size)).trans (g1.block k hk hne)⟩

set_option maxHeartbeats 400000 in
set_option maxRecDepth 100000 in
theorem sortP_nil (w : World) : Calls Try.prog 25 #[.slice none 0 0, .func (.func 26) #[] #[]] w fun e w' => e = .returned (.tuple #[]) ∧ w = w' := by
  have QI : Hid (∀ W, Calls Try.prog 35 #[.slice none 0 0, .int .i64 0, .int .i64 0, .func (.func 26) #[] #[]] W fun e w' => e = .returned (.tuple #[]) ∧ W = w') := fun W => by
    go_enter Try.func35, Try.ntmps35
    go_wp2
    go_loop [8] (fun iv => iv = .int .i64 1) (fun _ => 0)
    case atStart => rfl
    case round =>
      subst hrel
      go_wp2
      go_end0
      exact ⟨rfl, rfl⟩
  have QS : Hid (∀ W, Calls Try.prog 33 #[.slice none 0 0, .int .i64 0, .func (.func 26) #[] #[]] W fun e w' => e = .returned (.tuple #[]) ∧ W = w') := fun W => by
    go_enter Try.func33, Try.ntmps33
    go_wp2
    go_loop [7, 8] (fun av bv => av = .int .i64 0 ∧ bv = .int .i64 20) (fun _ _ => 0)
    case atStart => exact ⟨rfl, rfl⟩
    case round =>
      obtain ⟨rfl, rfl⟩ := hrel
      go_wp2_with fail
      refine (QI.out W).mono ?_
      rintro e w' ⟨rfl, rfl⟩
      go_wp2_with fail
      go_loop [6] (fun sv => sv = .int .i64 20) (fun _ => 0)
      case atStart => rfl
      case round =>
        subst hrel
        go_wp2
        go_end0
        exact ⟨rfl, rfl⟩
  go_enter Try.func25, Try.ntmps25
  go_wp2_with fail
  refine (QS.out w).mono ?_
  rintro e w' ⟨rfl, rfl⟩
  go_wp2
  go_end0
  exact ⟨rfl, rfl⟩
end Go.Proofs.Ytedllchlhdjanaa

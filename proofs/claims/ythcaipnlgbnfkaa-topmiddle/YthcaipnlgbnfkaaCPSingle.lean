/-
  Package peak, its own small functions: placesAlong, anyBefore, singlePeaked; nothing that was there is written.
-/
import Derived.Test.YthcaipnlgbnfkaaM12
import Derived.Test.YthcaipnlgbnfkaaCPBefore
import Derived.Test.YthcaipnlgbnfkaaM4
import Derived.Test.YthcaipnlgbnfkaaM3
import Derived.Test.YthcaipnlgbnfkaaPureA
namespace Go.Proofs.Ythcaipnlgbnfkaa
open Go.RowKit Fm
set_option linter.unusedVariables false

theorem idx_pos {n : Nat} {p : List Int} (hp : p.Perm (sides n)) {x : Int} (hx : x ∈ p) : Lib.idxOf p x = pos p x := by
  have hnd := perm_nodup hp
  obtain ⟨k, hk, h1, h2⟩ := pos_mem hnd hx
  rw [idx_hit hnd hk h1, h2]
theorem posL_set {line p : List Int} {n t : Nat} (hl : line.length = n) (ht : t < n) :
    ((posL line p).take t ++ List.replicate (n - t) 0).set t (pos p (line.getD t 0)) = (posL line p).take (t + 1) ++ List.replicate (n - (t + 1)) 0 := by
  have hpl := posL_len line p
  have e : n - t = (n - (t + 1)) + 1 := by omega
  rw [take_succ_getD (posL line p) t (by omega), posL_at (by omega), e, List.replicate_succ, List.set_append_right _ _ (by rw [List.length_take]; omega), List.length_take]
  rw [show t - min t (posL line p).length = 0 by omega, List.set_cons_zero, List.append_assoc]
  rfl

set_option maxHeartbeats 2000000 in
set_option maxRecDepth 100000 in
theorem placesAlong_any {n : Nat} (h1 : 1 ≤ n) (h6 : n ≤ 6) (line p : List Int) (hlp : line.Perm (sides n)) (hpp : p.Perm (sides n)) (al : Option Addr) (cl : Nat) (ap : Option Addr) (cp : Nat) (w : World)
    (hl : Rd w w.heap.size al n line) (hp : Rd w w.heap.size ap n p) :
    Calls Try.prog 105 #[.slice al n cl, .slice ap n cp] w fun e w' => ∃ g c, e = .returned (.slice (some ⟨g, 0, none⟩) n c) ∧ n ≤ c ∧ w'.ownsRow w.heap.size 3 1 (.slice (some ⟨g, 0, none⟩) n c) n (I (posL line p)) ∧ Below w.heap.size w w' := by
  have hmk : ∀ W : World, (Instr.makeSlice 22 (.int .i64 n) (.int .i64 n)).run Try.prog W = .ok (.slice (some ⟨W.heap.size, 0, none⟩) n n) (W.alloc (.cells (zeros n) 3)) := make_ints n (by omega)
  obtain ⟨B, hB⟩ : ∃ B, B = w.heap.size := ⟨_, rfl⟩
  have own0 := own_lit w 3 (List.replicate n 0) (zeros n) rfl (by unfold maxLen; simp; omega)
  rw [List.length_replicate] at own0
  have own1 := own_mono own0 (Nat.le_of_eq hB)
  have hb0 : Below B w (w.alloc (.cells (zeros n) 3)) := by rw [hB]; exact (Below.refl _ w).alloc (Nat.le_refl _) _
  have hs0 : B ≤ (w.alloc (.cells (zeros n) 3)).heap.size := by rw [hB]; exact Nat.le_of_lt (by simp)
  have e0 : List.replicate n (0 : Int) = (posL line p).take 0 ++ List.replicate (n - 0) 0 := by simp
  rw [e0] at own1
  clear e0 own0
  rw [← hB] at hl hp ⊢
  clear hB
  have HL := Lib.hid hl
  have HP := Lib.hid hp
  have HLL := Lib.hid hl.1
  have HLM := Lib.hid hlp
  have HPM := Lib.hid hpp
  obtain ⟨out, hout⟩ : ∃ out, posL line p = out := ⟨_, rfl⟩
  have HOL : Hid (out.length = n) := by show _ = _; rw [← hout, posL_len, HLL.out]
  have HST : Hid (∀ t, t < n → (out.take t ++ List.replicate (n - t) 0).set t (pos p (line.getD t 0)) = out.take (t + 1) ++ List.replicate (n - (t + 1)) 0) := fun t ht => by
    rw [← hout]; exact posL_set HLL.out ht
  rw [hout] at own1 ⊢
  clear hl hp hlp hpp hout
  go_enter Try.func105, Try.ntmps105
  go_wp2_with fail
  clear hmk
  generalize w.alloc (.cells (zeros n) 3) = w2 at *
  generalize w.heap.size = g at *
  go_loopw [13] (fun iv wr => ∃ t : Nat, t ≤ n ∧ iv = .int .i64 t ∧ wr.ownsRow B 3 1 (.slice (some ⟨g, 0, none⟩) n n) n (I (out.take t ++ List.replicate (n - t) 0)) ∧ Below B w wr ∧ B ≤ wr.heap.size) (fun iv _ => n - (intOf iv).toNat)
  case atStart => exact ⟨0, Nat.zero_le _, rfl, own1, hb0, hs0⟩
  case round =>
    obtain ⟨t, ht, rfl, own, hbel, hz⟩ := hrel
    clear own1 hb0 hs0
    by_cases htn : t < n
    · obtain ⟨b, o, rfl, hb, hcell⟩ := HL.out.at_ htn
      have hct : wr.cell? ⟨b, o + t, none⟩ = some (.int .i64 (line.getD t 0)) := (hbel.cell (by show b < _; omega)).trans hcell
      have hmem : line.getD t 0 ∈ p := HPM.out.mem_iff.2 (HLM.out.mem_iff.1 (getD_mem line t (by rw [HLL.out]; exact htn)))
      have HIX := Lib.hid (index_any p (line.getD t 0) ap n cp wr B (HP.out.below hbel (Nat.le_refl _)) (by omega))
      rw [idx_pos HPM.out hmem] at HIX
      have hst := HST.out t htn
      clear hcell hmem
      generalize line.getD t 0 = x at *
      generalize pos p x = y at *
      have ck := own_cell own t htn
      have fk := own.frozenAt t
      obtain ⟨s1, g1⟩ := own.stored t (.int .i64 y)
      have es : (I (out.take t ++ List.replicate (n - t) 0)).set t (.int .i64 y) = I (out.take (t + 1) ++ List.replicate (n - (t + 1)) 0) := by
        rw [← hst]; unfold I; rw [List.map_set]
      rw [es] at s1
      have hb5 := hbel.grown g1 hz (fun z hz2 => by injection hz2 with hz2; have := (own.lt g rfl).1; omega)
      have hz5 := Nat.le_trans hz g1.size
      clear es g1 hst
      go_wp2_with fail
      refine HIX.out.mono ?_
      rintro e w' ⟨rfl, rfl⟩
      clear HIX own hbel hct
      go_wp2
      go_roundw
      case rel => exact ⟨t + 1, by omega, by go_num, s1, hb5, hz5⟩
      case measure => simp [intOf]; omega
    · obtain rfl : t = n := by omega
      have e1 : out.take t ++ List.replicate (t - t) 0 = out := by
        rw [List.take_of_length_le (by rw [HOL.out]; exact Nat.le_refl _)]; simp
      rw [e1] at own
      clear e1
      go_wp2
      go_ret
      exact ⟨g, t, rfl, Nat.le_refl _, own, hbel⟩

theorem single_any {n : Nat} (h1 : 1 ≤ n) (h6 : n ≤ 6) (line p : List Int) (hlp : line.Perm (sides n)) (hpp : p.Perm (sides n)) (al : Option Addr) (cl : Nat) (ap : Option Addr) (cp : Nat) (w : World)
    (hl : Rd w w.heap.size al n line) (hp : Rd w w.heap.size ap n p) :
    Calls Try.prog 84 #[.slice al n cl, .slice ap n cp] w fun e w' => e = .returned (.bool (alongB line p)) ∧ Below w.heap.size w w' :=
  single_of h1 h6 line p hl.1 al cl ap cp w (placesAlong_any h1 h6 line p hlp hpp al cl ap cp w hl hp)
end Go.Proofs.Ythcaipnlgbnfkaa

/-
  Package peak: anyBefore, and singlePeaked from what placesAlong answers; nothing that was there is written.
-/
import Derived.Test.YthcaipnlgbnfkaaM12
import Derived.Test.YthcaipnlgbnfkaaM4
import Derived.Test.YthcaipnlgbnfkaaM3
import Derived.Test.YthcaipnlgbnfkaaPureA
namespace Go.Proofs.Ythcaipnlgbnfkaa
open Go.RowKit Fm
set_option linter.unusedVariables false

set_option maxHeartbeats 400000 in
set_option maxRecDepth 100000 in
theorem before1_any (x y : Int) (g : Nat) (w : World) (hg : w.cell? ⟨g, 0, none⟩ = some (.int .i64 y)) :
    Calls Try.prog 123 #[.int .i64 x, .pointer (some ⟨g, 0, none⟩)] w fun e w' => e = .returned (.bool (decide (x < y))) ∧ Below w.heap.size w w' := by
  go_enter Try.func123, Try.ntmps123
  go_wp2
  go_ret
  exact ⟨rfl, Below.refl _ w⟩

set_option maxHeartbeats 400000 in
set_option maxRecDepth 100000 in
theorem before_any (l : List Int) (y : Int) (a : Option Addr) (m c : Nat) (w : World) (hr : Rd w w.heap.size a m l) (hm : m ≤ 17592186044416) :
    Calls Try.prog 106 #[.slice a m c, .int .i64 y] w fun e w' => e = .returned (.bool (l.any fun x => decide (x < y))) ∧ Below w.heap.size w w' := by
  have hba : Below w.heap.size w (w.alloc (.cells #[.int .i64 y] 3)) := (Below.refl _ w).alloc (Nat.le_refl _) _
  have HBX : (w.alloc (.cells #[.int .i64 y] 3)).cell? ⟨w.heap.size, 0, none⟩ = some (.int .i64 y) := by rw [World.cell?_alloc_new]; rfl
  have HGX : w.heap.size < (w.alloc (.cells #[.int .i64 y] 3)).heap.size := by simp
  have hT : Tells 123 #[.pointer (some ⟨w.heap.size, 0, none⟩)] l (fun x => decide (x < y)) (w.alloc (.cells #[.int .i64 y] 3)) := fun x hx w6 hb6 =>
    before1_any x y w.heap.size w6 ((hb6.cell HGX).trans HBX)
  have HIX := Lib.hid (containsFuncI_any 123 (fun _ _ => rfl) #[.pointer (some ⟨w.heap.size, 0, none⟩)] (fun x => decide (x < y)) a m c l _ _ (Nat.le_refl _) (rd_ext hr hba) hm hT)
  have HBA := Lib.hid hba
  clear hr hT hba HBX HGX
  generalize (l.any fun x => decide (x < y)) = r at *
  go_enter Try.func106, Try.ntmps106
  go_wp2_with fail
  refine HIX.out.mono ?_
  rintro e w4 ⟨rfl, hb4⟩
  have hbe := ext_trans HBA.out hb4
  clear HIX HBA hb4
  go_wp2
  go_ret
  exact ⟨rfl, hbe⟩

set_option maxHeartbeats 2000000 in
set_option maxRecDepth 100000 in
theorem single_of {n : Nat} (h1 : 1 ≤ n) (h6 : n ≤ 6) (line p : List Int) (hln : line.length = n) (al : Option Addr) (cl : Nat) (ap : Option Addr) (cp : Nat) (w : World)
    (hq : Calls Try.prog 105 #[.slice al n cl, .slice ap n cp] w fun e w' => ∃ g c, e = .returned (.slice (some ⟨g, 0, none⟩) n c) ∧ n ≤ c ∧ w'.ownsRow w.heap.size 3 1 (.slice (some ⟨g, 0, none⟩) n c) n (I (posL line p)) ∧ Below w.heap.size w w') :
    Calls Try.prog 84 #[.slice al n cl, .slice ap n cp] w fun e w' => e = .returned (.bool (alongB line p)) ∧ Below w.heap.size w w' := by
  have QP := Lib.hid hq
  have HYES : Hid (∀ i, i < n → dipL (posL line p) i = true → dipR (posL line p) i = true → alongB line p = false) := fun i hi => dip_yes (by rw [hln]; exact hi)
  have HNO : Hid ((∀ i, i < n → (dipL (posL line p) i && dipR (posL line p) i) = false) → alongB line p = true) := fun h => dip_no (fun i hi => h i (by omega))
  have hol : (posL line p).length = n := by rw [posL_len, hln]
  have HOL := Lib.hid hol
  clear hq hln hol
  generalize alongB line p = res at *
  generalize posL line p = l at *
  go_enter Try.func84, Try.ntmps84
  go_wp2_with fail
  refine QP.out.mono ?_
  rintro e w1 ⟨g, c, rfl, hnc, own, hb1⟩
  have HB1 := Lib.hid hb1
  have RD := Lib.hid (Rd.of_own own)
  have RC := Lib.hid (own_cell own)
  have hgw := (own.lt g rfl).2
  clear QP own hb1
  go_wp2_with fail
  go_loopw [13] (fun iv wr => ∃ i : Nat, i ≤ n ∧ iv = .int .i64 i ∧ (∀ j, j < i → (dipL l j && dipR l j) = false) ∧ Below w1.heap.size w1 wr) (fun iv _ => n - (intOf iv).toNat)
  case atStart => exact ⟨0, Nat.zero_le _, rfl, fun j hj => by omega, Below.refl _ w1⟩
  case round =>
    obtain ⟨i, hi, rfl, hall, hbel⟩ := hrel
    have HALL := Lib.hid hall
    have hz := hbel.size
    clear hall
    by_cases hin : i < n
    · have hct : wr.cell? ⟨g, i, none⟩ = some (.int .i64 (l.getD i 0)) := (hbel.cell (by exact hgw)).trans (RC.out i hin)
      have hrw := rd_ext RD.out hbel
      have QL := Lib.hid (before_any (l.take i) (l.getD i 0) (some ⟨g, 0, none⟩) i c wr (hrw.cutR i (by omega)) (by omega))
      have HRW := Lib.hid hrw
      have QR : Hid (∀ W c', Below wr.heap.size wr W → Calls Try.prog 106 #[.slice (some ⟨g, i + 1, none⟩) (n - (i + 1)) c', .int .i64 (l.getD i 0)] W fun e w' => e = .returned (.bool ((l.drop (i + 1)).any fun x => decide (x < l.getD i 0))) ∧ Below W.heap.size W w') := fun W c' hW => by
        have h := (rd_ext HRW.out hW).cutL (i + 1) (by omega)
        rw [Nat.zero_add] at h
        exact before_any (l.drop (i + 1)) (l.getD i 0) (some ⟨g, i + 1, none⟩) (n - (i + 1)) c' W h (by omega)
      clear hrw
      have HL1 : Hid (((l.take i).any fun x => decide (x < l.getD i 0)) = dipL l i) := rfl
      have HR1 : Hid (((l.drop (i + 1)).any fun x => decide (x < l.getD i 0)) = dipR l i) := rfl
      rw [HL1.out] at QL
      rw [HR1.out] at QR
      have HY := Lib.hid (HYES.out i hin)
      have HNX : Hid ((dipL l i && dipR l i) = false → ∀ j, j < i + 1 → (dipL l j && dipR l j) = false) := fun h j hj => by
        by_cases e : j = i
        · subst e; exact h
        · exact HALL.out j (by omega)
      have HDR : Hid (n = i + 1 → dipR l i = false) := fun h => by
        unfold dipR; rw [List.drop_eq_nil_of_le (by rw [HOL.out]; omega)]; rfl
      clear HL1 HR1 HALL
      generalize dipL l i = dl at *
      generalize dipR l i = dr at *
      generalize l.getD i 0 = y at *
      go_wp2_with fail
      refine QL.out.mono ?_
      rintro e w4 ⟨rfl, hb4⟩
      cases dl with
      | false =>
        have HX := Lib.hid (HNX.out rfl)
        have hbe := hbel.trans (hb4.mono hz)
        clear hb4 hbel hct QL QR
        go_wp2
        go_roundw
        case rel => exact ⟨i + 1, by omega, by go_num, HX.out, hbe⟩
        case measure => simp [intOf]; omega
      | true =>
        go_wp2_with fail
        case inl =>
          have e0 : n - (i + 1) = 0 := by omega
          have hdr := HDR.out (by omega)
          subst hdr
          subst h
          have HX := Lib.hid (HNX.out rfl)
          have hbe := hbel.trans (hb4.mono hz)
          refine (before_any [] y (some ⟨g, 0, none⟩) (n - (i + 1)) 0 w4 (by rw [e0]; exact Rd.nil_) (by omega)).mono ?_
          rintro e w5 ⟨rfl, hb5⟩
          have hb15 := hbe.trans (hb5.mono (Nat.le_trans hz hb4.size))
          clear hb4 hb5 hbe hbel hct QL QR e0
          go_wp2
          go_roundw
          case rel => exact ⟨i + 1, by omega, by go_num, HX.out, hb15⟩
          case measure => simp [intOf]; omega
        case inr =>
          refine (QR.out w4 (c - (i + 1)) hb4).mono ?_
          rintro e w5 ⟨rfl, hb5⟩
          have hbe := (hbel.trans (hb4.mono hz)).trans (hb5.mono (Nat.le_trans hz hb4.size))
          clear hb4 hb5 hbel hct QL QR
          cases dr with
          | false =>
            have HX := Lib.hid (HNX.out rfl)
            go_wp2
            go_roundw
            case rel => exact ⟨i + 1, by omega, by go_num, HX.out, hbe⟩
            case measure => simp [intOf]; omega
          | true =>
            have hr0 : res = false := HY.out (by trivial) (by trivial)
            subst hr0
            have hbb := ext_trans HB1.out hbe
            go_wp2
            go_ret
            exact ⟨rfl, hbb⟩
    · obtain rfl : i = n := by omega
      have hr0 : res = true := HNO.out HALL.out
      subst hr0
      have hbe := ext_trans HB1.out hbel
      go_wp2
      go_ret
      exact ⟨rfl, hbe⟩
end Go.Proofs.Ythcaipnlgbnfkaa

/-
  plumekeep.EquilTeam returns true, for every slice of slices of ints, if package equil keeps its contracts; nothing that was there is written.
-/
import Derived.Test.YtimjepakdldacaaCEquils
import Derived.Test.YtimjepakdldacaaCPairHas
import Derived.Test.YtimjepakdldacaaSqPay
import Derived.Test.YtimjepakdldacaaBox2
import Derived.BigQuiet
import Derived.Deep.QuietTactic
namespace Go.Proofs.Ytimjepakdldacaa
open Go.RowKit Fm
set_option linter.unusedVariables false

theorem echk_same {M : List (List Int)} (h : pchk M ≠ 0) : echk M M = pchk M := by unfold echk; rw [if_pos h]
/-- All entries before row x, and those of row x before y, are no more than that at i, j. -/
def seenB (M : List (List Int)) (k x y i j : Nat) : Prop := ∀ u v, v < k → (u < x ∨ (u = x ∧ v < y)) → ent M u v ≤ ent M i j
theorem seen_next {M : List (List Int)} {k x i j : Nat} (h : seenB M k x k i j) : seenB M k (x + 1) 0 i j := fun u v hv hu => h u v hv (by omega)
theorem seen_stay {M : List (List Int)} {k x y i j : Nat} (h : seenB M k x y i j) (hn : ent M x y ≤ ent M i j) : seenB M k x (y + 1) i j := fun u v hv hu => by
  by_cases e : u = x ∧ v = y
  · obtain ⟨rfl, rfl⟩ := e; exact hn
  · exact h u v hv (by omega)
theorem seen_move {M : List (List Int)} {k x y i j : Nat} (h : seenB M k x y i j) (hn : ent M i j < ent M x y) : seenB M k x (y + 1) x y := fun u v hv hu => by
  by_cases e : u = x ∧ v = y
  · obtain ⟨rfl, rfl⟩ := e; exact Int.le_refl _
  · have := h u v hv (by omega); omega
theorem seen_eq {M : List (List Int)} {r k i j : Nat} (p : Pay r k M) (hi : i < r) (hj : j < k) (h : seenB M k r 0 i j) : ((i : Int), (j : Int)) ∈ eqA M M k r :=
  (mem_selA r).2 ⟨i, j, hi, hj, (isEq_iff ⟨p, p⟩ hi hj).2 ⟨fun z hz => h z j hj (by omega), fun z hz => h i z hz (by omega)⟩, rfl⟩

set_option maxHeartbeats 4000000 in
set_option maxRecDepth 100000 in
theorem equilTeam_is (eRE : ERestE) (eR : ERest) (eL : ELeft) (v : Value) (L : List (List Int)) {w : World} (f : IsRows w v L) :
    Calls Try.prog 7 #[v] w fun e w' => e = .returned (.bool true) ∧ Below w.heap.size w w' := by
  obtain ⟨a, c, rfl, hr, hall, hlc, _, hcm, h24⟩ := f
  have hT : TabIn w a L.length L := ⟨w.heap.size, Nat.le_refl _, hr, by omega, fun l hl => by have := (hall l hl).2; omega⟩
  have W0 := Lib.hid (equils_any eR eL w)
  have HR := Lib.hid hr
  have HT := Lib.hid hT
  by_cases h0 : pchk L = 0
  · have p := pchk_ok h0
    obtain ⟨r, hrl⟩ : ∃ r, L.length = r := ⟨_, rfl⟩
    obtain ⟨k, hk⟩ : ∃ k, (L.getD 0 []).length = k := ⟨_, rfl⟩
    rw [hk, hrl] at p
    have hk6 := p.k6
    have hr6 := p.r6
    have hk1 := p.k1
    have hr1 := p.r1
    have QR : Hid (∀ W, Below w.heap.size w W → Calls Try.prog 9 #[.slice a L.length c, .slice a L.length c] W (PairsOut (eqA L L k r) W)) := fun W hW => eR r k a L.length c L a L.length c L W (hT.below hW) (hT.below hW) ⟨p, p⟩
    unfold PairsOut at QR
    obtain ⟨_, b, o, rfl, hbb, hsq⟩ := rdr_sqP HR.out p
    have HSQ := Lib.hid hsq
    have HMEM : Hid (∀ i j, i < r → j < k → seenB L k r 0 i j → ((i : Int), (j : Int)) ∈ eqA L L k r) := fun i j hi hj h => seen_eq p hi hj h
    have h36 := eq36 (g := ⟨p, p⟩) (A := L) (B := L) (r := r) (k := k)
    have HEB : Hid (∀ x y, -1000 ≤ ent L x y ∧ ent L x y ≤ 1000) := p.ent
    rw [hrl] at QR ⊢
    clear h0 hr hall hT HR HT hk hrl hlc h24 hsq p
    generalize eqA L L k r = ps at *
    go_enter Try.func7, Try.ntmps7
    go_wp2_with fail
    refine W0.out.mono ?_
    rintro e w1 ⟨rfl, hb1⟩
    clear W0
    go_wp2_with fail
    refine (QR.out w1 hb1).mono ?_
    rintro e w3 ⟨a3, c3, rfl, hc3, hm3, r3, hb3⟩
    have hb03 := ext_trans hb1 hb3
    have R3 := Lib.hid r3
    clear QR hb1 hb3 r3
    have yb := boxQ w3 34 0 0
    have hbl : Below w3.heap.size w3 (w3.alloc (.cells #[.int .i64 0, .int .i64 0] 34)) := (Below.refl _ w3).alloc (Nat.le_refl _) _
    have hsz : w3.heap.size < (w3.alloc (.cells #[.int .i64 0, .int .i64 0] 34)).heap.size := by simp
    have H03 := Lib.hid hb03
    have z03 := hb03.size
    go_wp2_with fail
    clear hb03
    generalize w3.alloc (.cells #[.int .i64 0, .int .i64 0] 34) = w4 at *
    obtain ⟨y1, y2, y3⟩ := yb
    have y3' := y3 1
    have y3 := y3 0
    have S0 : Hid (seenB L k 0 0 0 0) := fun u v hv hu => by omega
    have HNX : Hid (∀ x i j, seenB L k x k i j → seenB L k (x + 1) 0 i j) := fun x i j h => seen_next h
    have HSY : Hid (∀ x y i j, seenB L k x y i j → ent L x y ≤ ent L i j → seenB L k x (y + 1) i j) := fun x y i j h hn => seen_stay h hn
    have HMV : Hid (∀ x y i j, seenB L k x y i j → ent L i j < ent L x y → seenB L k x (y + 1) x y) := fun x y i j h hn => seen_move h hn
    go_loopw [26] (fun iv wr => ∃ x i j : Nat, x ≤ r ∧ iv = .int .i64 x ∧ i < r ∧ j < k ∧ Hid (seenB L k x 0 i j) ∧ wr.cell? ⟨w3.heap.size, 0, none⟩ = some (.int .i64 i) ∧ wr.cell? ⟨w3.heap.size, 1, none⟩ = some (.int .i64 j) ∧ wr.frozen? ⟨w3.heap.size, 0, none⟩ = false ∧ wr.frozen? ⟨w3.heap.size, 1, none⟩ = false ∧ w3.heap.size < wr.heap.size ∧ Below w3.heap.size w3 wr) (fun iv _ => r - (intOf iv).toNat)
    case atStart => exact ⟨0, 0, 0, Nat.zero_le _, rfl, by omega, by omega, S0, y1, y2, y3, y3', hsz, hbl⟩
    case round =>
      clear y1 y2 y3 y3' hsz hbl S0
      obtain ⟨x, i, j, hx, rfl, hi, hj, HSB, y1, y2, y3, y4, hsz, hbl⟩ := hrel
      by_cases hxr : x < r
      · obtain ⟨bx, ox, cx, hbx, hrx, _, _, hcx⟩ := HSQ.out x hxr
        have HCX := Lib.hid hcx
        have hbF := H03.out.trans (hbl.mono z03)
        have r1 := (hbF.cell (p := ⟨b, o + x, none⟩) (by exact hbb)).trans hrx
        have d1 : decide ((x : Int) < (r : Int)) = true := decide_eq_true (by omega)
        obtain ⟨wo, rfl⟩ : ∃ wo, wo = wr := ⟨_, rfl⟩
        clear hcx hrx hbF
        go_wp2_with fail
        clear r1
        go_loopw [33] (fun iv wr => ∃ y i j : Nat, y ≤ k ∧ iv = .int .i64 y ∧ i < r ∧ j < k ∧ Hid (seenB L k x y i j) ∧ wr.cell? ⟨w3.heap.size, 0, none⟩ = some (.int .i64 i) ∧ wr.cell? ⟨w3.heap.size, 1, none⟩ = some (.int .i64 j) ∧ wr.frozen? ⟨w3.heap.size, 0, none⟩ = false ∧ wr.frozen? ⟨w3.heap.size, 1, none⟩ = false ∧ w3.heap.size < wr.heap.size ∧ Below w3.heap.size w3 wr) (fun iv _ => k - (intOf iv).toNat)
        case atStart => exact ⟨0, i, j, Nat.zero_le _, rfl, hi, hj, HSB, y1, y2, y3, y4, hsz, hbl⟩
        case round =>
          clear y1 y2 y3 y4 hsz hbl HSB hi hj
          obtain ⟨y, i, j, hy, rfl, hi, hj, HSB, y1, y2, y3, y4, hsz, hbl⟩ := hrel
          by_cases hyk : y < k
          · have hbF := H03.out.trans (hbl.mono z03)
            obtain ⟨bi, oi, ci, hbi, hri, _, _, hci⟩ := HSQ.out i hi
            have t1 := (hbF.cell (p := ⟨bx, ox + y, none⟩) (by exact hbx)).trans (HCX.out y hyk)
            have t2 := (hbF.cell (p := ⟨b, o + i, none⟩) (by exact hbb)).trans hri
            have t3 := (hbF.cell (p := ⟨bi, oi + j, none⟩) (by exact hbi)).trans (hci j hj)
            have SY := Lib.hid (fun h => HSY.out x y i j HSB.out h)
            have MV := Lib.hid (fun h => HMV.out x y i j HSB.out h)
            have hi' : (i : Int) < (r : Int) := by omega
            have hj' : (j : Int) < (k : Int) := by omega
            clear hbF hci hri
            generalize ent L x y = e1 at *
            generalize ent L i j = e2 at *
            by_cases q : e2 < e1
            · have dq : decide (e2 < e1) = true := decide_eq_true q
              have HN := Lib.hid (MV.out q)
              clear SY MV
              go_wp2_with fail
              go_quiet (fail)
              have st := stored2 (W := wr.drewN nq) (P := .int .i64 (x : Int)) (Q := .int .i64 (y : Int)) y1 y2 y3 y4
              have hbS : Below w3.heap.size w3 (((wr.drewN nq).setCell ⟨w3.heap.size, 0, none⟩ (.int .i64 (x : Int))).setCell ⟨w3.heap.size, 1, none⟩ (.int .i64 (y : Int))) := ((below_drewN hbl nq).setCell (p := ⟨w3.heap.size, 0, none⟩) (Nat.le_refl _) _).setCell (p := ⟨w3.heap.size, 1, none⟩) (Nat.le_refl _) _
              have HS := Lib.hid (show _ ∧ _ from ⟨st, hbS⟩)
              have hsz' : w3.heap.size < (wr.drewN nq).heap.size := hsz
              clear st hbS hbl t1 t2 t3
              go_wp2
              go_roundw
              case rel => exact ⟨y + 1, x, y, by omega, by go_num, by omega, by omega, HN, HS.out.1.1, HS.out.1.2.1, HS.out.1.2.2.1, HS.out.1.2.2.2.1, by rw [HS.out.1.2.2.2.2]; exact hsz', HS.out.2⟩
              case measure => simp [intOf]; omega
            · have dq : decide (e2 < e1) = false := decide_eq_false q
              have HN := Lib.hid (SY.out (by omega))
              clear SY MV
              go_wp2_with fail
              go_quiet (fail)
              go_wp2
              go_roundw
              case rel => exact ⟨y + 1, i, j, by omega, by go_num, by omega, by omega, HN, y1, y2, y3, y4, hsz, below_drewN hbl nq⟩
              case measure => simp [intOf]; omega
          · obtain rfl : y = k := by omega
            have HN := Lib.hid (HNX.out x i j HSB.out)
            go_wp2
            go_roundw
            case rel => exact ⟨x + 1, i, j, by omega, by go_num, hi, hj, HN, y1, y2, y3, y4, hsz, hbl⟩
            case measure => simp [intOf]; omega
      · obtain rfl : x = r := by omega
        have hm := HMEM.out i j hi hj HSB.out
        have Q1 : Hid (Calls Try.prog 22 #[.slice a3 ps.length c3, .agg #[.int .i64 (i : Int), .int .i64 (j : Int)]] wr fun e w' => e = .returned (.bool true) ∧ Below wr.heap.size wr w') := by
          have := has2_any ps a3 ps.length c3 i j wr ((R3.out.below hbl (Nat.le_refl _)).more (by omega)) (by omega)
          rw [decide_eq_true hm] at this
          exact this
        have hbF := H03.out.trans (hbl.mono z03)
        clear hm R3 HMEM HSB hbl
        go_wp2_with fail
        refine Q1.out.mono ?_
        rintro e w9 ⟨rfl, hb9⟩
        have hbe := ext_trans hbF hb9
        clear Q1
        go_wp2
        go_ret
        exact ⟨rfl, hbe⟩
  · have e1 := echk_same h0
    have QE : Hid (∀ W, Below w.heap.size w W → Calls Try.prog 9 #[.slice a L.length c, .slice a L.length c] W (ErrOut (echk L L) W)) := fun W hW => eRE a L.length c L a L.length c L W (hT.below hW) (hT.below hW) (by rw [e1]; exact h0)
    rw [e1] at QE
    have hne : (pchk L != 0) = true := by simpa using h0
    unfold ErrOut at QE
    clear e1 h0 hr hall hT HR HT
    generalize pchk L = rr at *
    generalize L.length = n at *
    go_enter Try.func7, Try.ntmps7
    go_wp2_with fail
    refine W0.out.mono ?_
    rintro e w1 ⟨rfl, hb1⟩
    clear W0
    go_wp2_with fail
    refine (QE.out w1 hb1).mono ?_
    rintro e w3 ⟨a3, c3, rfl, hb3⟩
    have hb03 := ext_trans hb1 hb3
    clear QE hb1 hb3
    go_wp2
    go_ret
    exact ⟨by first | rfl | simp, hb03⟩
end Go.Proofs.Ytimjepakdldacaa

/-
  plumeref.AlongOf at two orders: whether the second is single-peaked along the first; nothing that was there is written.
-/
import Derived.Test.YtcjhgkmodfkmoaaCPlaces
import Derived.Test.YtcjhgkmodfkmoaaPeakMath
import Derived.BigQuiet
import Derived.Deep.QuietTactic
namespace Go.Proofs.Ytcjhgkmodfkmoaa
open Go.RowKit Fm
set_option linter.unusedVariables false

/-- No three of the line before (i, j, k), in the order of the loops, have their middle last. -/
def noneTo (line p : List Int) (i j k : Nat) : Prop := ∀ a b c, a < b → b < c → c < line.length → (a < i ∨ (a = i ∧ (b < j ∨ (b = j ∧ c < k)))) → lastB line p a b c = false
theorem noneTo_next {line p : List Int} {i j k : Nat} (h : noneTo line p i j k) (hl : lastB line p i j k = false) : noneTo line p i j (k + 1) := fun a b c h1 h2 h3 h4 => by
  by_cases e : a = i ∧ b = j ∧ c = k
  · obtain ⟨rfl, rfl, rfl⟩ := e; exact hl
  · exact h a b c h1 h2 h3 (by omega)
theorem noneTo_j {line p : List Int} {i j : Nat} (h : noneTo line p i j line.length) : noneTo line p i (j + 1) (j + 2) := fun a b c h1 h2 h3 h4 => h a b c h1 h2 h3 (by omega)
theorem noneTo_i {line p : List Int} {i m : Nat} (h : noneTo line p i line.length m) : noneTo line p (i + 1) (i + 2) (i + 3) := fun a b c h1 h2 h3 h4 => h a b c h1 h2 h3 (by omega)
theorem noneTo_zero (line p : List Int) : noneTo line p 0 1 2 := fun a b c h1 h2 h3 h4 => by omega
theorem noneTo_end {line p : List Int} {j k : Nat} (h : noneTo line p line.length j k) : alongB line p = true := along_iff.2 fun a b c h1 h2 h3 => h a b c h1 h2 h3 (by omega)

set_option maxHeartbeats 2000000 in
set_option maxRecDepth 100000 in
theorem alongOf_any {n : Nat} {line p : List Int} (hl : line.Perm (sides n)) (hp : p.Perm (sides n)) (h1 : 1 ≤ n) (h6 : n ≤ 6) (al ap : Option Addr) (cl cp : Nat) (w : World) (rl : Rd w w.heap.size al n line) (rp : Rd w w.heap.size ap n p) :
    Calls Try.prog 11 #[.slice al n cl, .slice ap n cp] w fun e w' => e = .returned (.bool (alongB line p)) ∧ Below w.heap.size w w' := by
  have QP := Lib.hid (places2_any hp h1 h6 ap cp w w.heap.size (Nat.le_refl _) rp)
  obtain ⟨b, o, rfl, hb, hcell⟩ := rl.2 (by omega)
  have HL := Lib.hid (perm_len hl)
  have HM : Hid (∀ j, j < n → ∃ x : Nat, x < n ∧ line.getD j 0 = x) := fun j hj => by
    have hj' : j < line.length := by rw [perm_len hl]; exact hj
    have := mem_sides.1 (hl.mem_iff.1 (getD_mem line j hj'))
    exact ⟨(line.getD j 0).toNat, by omega, by omega⟩
  have HC := Lib.hid hcell
  obtain ⟨res, hres⟩ : ∃ res, alongB line p = res := ⟨_, rfl⟩
  have HRES := Lib.hid hres
  rw [hres]
  clear hcell hres rl rp hl hp
  go_enter Try.func11, Try.ntmps11
  go_wp2_with fail
  refine QP.out.mono ?_
  rintro e w1 ⟨rfl, own, hb1⟩
  clear QP
  have HB1 := Lib.hid hb1
  have CL : Hid (∀ j, j < n → w1.cell? ⟨b, o + j, none⟩ = some (.int .i64 (line.getD j 0))) := fun j hj => (hb1.cell (by exact hb)).trans (HC.out j hj)
  have CP : Hid (∀ x, x < n → w1.cell? ⟨w.heap.size, x, none⟩ = some (.int .i64 (pos p x))) := fun x hx => by
    have := own_cell own x hx
    rwa [map_sides_getD n _ hx] at this
  clear own hb1 HC
  obtain ⟨g, hg⟩ : ∃ g, w.heap.size = g := ⟨_, rfl⟩
  rw [show Value.slice (some ⟨w.heap.size, 0, none⟩) n n = Value.slice (some ⟨g, 0, none⟩) n n by rw [hg]]
  rw [hg] at CP
  clear hg
  go_wp2_with fail
  go_loopw [13] (fun iv wr => ∃ i : Nat, i ≤ n ∧ iv = .int .i64 i ∧ noneTo line p i (i + 1) (i + 2) ∧ ∃ q, wr = w1.drewN q) (fun iv _ => n - (intOf iv).toNat)
  case atStart => exact ⟨0, Nat.zero_le _, rfl, noneTo_zero line p, 0, rfl⟩
  case round =>
    obtain ⟨i, hi, rfl, hno, qi, hwi⟩ := hrel
    have HNO := Lib.hid hno
    have HWI := Lib.hid hwi
    clear hno hwi
    by_cases hin : i < n
    · obtain ⟨wo, rfl⟩ : ∃ wo, wo = wr := ⟨_, rfl⟩
      go_wp2_with fail
      go_loopw [7] (fun jv wr => ∃ j : Nat, i < j ∧ j ≤ n ∧ jv = .int .i64 j ∧ noneTo line p i j (j + 1) ∧ ∃ q, wr = w1.drewN q) (fun jv _ => n - (intOf jv).toNat)
      case atStart => exact ⟨i + 1, by omega, by omega, by go_num, HNO.out, qi, HWI.out⟩
      case round =>
        obtain ⟨j, hij, hj, rfl, hno, qj, hwj⟩ := hrel
        have HNO2 := Lib.hid hno
        have HWJ := Lib.hid hwj
        clear hno hwj HNO HWI
        by_cases hjn : j < n
        · obtain ⟨wp, rfl⟩ : ∃ wp, wp = wr := ⟨_, rfl⟩
          go_wp2_with fail
          go_loopw [8] (fun kv wr => ∃ k : Nat, j < k ∧ k ≤ n ∧ kv = .int .i64 k ∧ noneTo line p i j k ∧ ∃ q, wr = w1.drewN q) (fun kv _ => n - (intOf kv).toNat)
          case atStart => exact ⟨j + 1, by omega, by omega, by go_num, HNO2.out, qj, HWJ.out⟩
          case round =>
            obtain ⟨k, hjk, hk, rfl, hno, qk, hwk⟩ := hrel
            have HNO3 := Lib.hid hno
            have HWK := Lib.hid hwk
            have CLW : Hid (∀ j, j < n → wr.cell? ⟨b, o + j, none⟩ = some (.int .i64 (line.getD j 0))) := fun j hj => by rw [hwk]; exact CL.out j hj
            have CPW : Hid (∀ x, x < n → wr.cell? ⟨g, x, none⟩ = some (.int .i64 (pos p x))) := fun x hx => by rw [hwk]; exact CP.out x hx
            clear hno hwk HNO2 HWJ
            by_cases hkn : k < n
            · have c1 := CLW.out i hin
              have c2 := CLW.out j hjn
              have c3 := CLW.out k hkn
              obtain ⟨x, hx, ex⟩ := HM.out i hin
              obtain ⟨y, hy, ey⟩ := HM.out j hjn
              obtain ⟨z, hz, ez⟩ := HM.out k hkn
              have HLB : Hid (lastB line p i j k = decide (pos p x < pos p y ∧ pos p z < pos p y)) := by show _ = _; unfold lastB; rw [ex, ey, ez]
              rw [ex] at c1
              rw [ey] at c2
              rw [ez] at c3
              have d1 := CPW.out x hx
              have d2 := CPW.out y hy
              have d3 := CPW.out z hz
              have HNX : Hid (lastB line p i j k = false → noneTo line p i j (k + 1)) := fun h => noneTo_next HNO3.out h
              have HAN : Hid (lastB line p i j k = true → alongB line p = false) := fun h => along_not hij hjk (by rw [HL.out]; exact hkn) h
              clear ex ey ez HNO3
              generalize pos p x = px at *
              generalize pos p y = py at *
              generalize pos p z = pz at *
              by_cases t1 : px < py
              · by_cases t2 : pz < py
                · have HX : Hid (res = false) := by
                    show _ = _
                    rw [← HRES.out]; exact HAN.out (by rw [HLB.out]; exact decide_eq_true ⟨t1, t2⟩)
                  go_wp2_with fail
                  go_quiet (fail)
                  go_wp2
                  go_ret
                  exact ⟨by rw [HX.out]; rfl, by rw [HWK.out, World.drewN_drewN]; exact below_drewN HB1.out _⟩
                · have HX := Lib.hid (HNX.out (by rw [HLB.out]; exact decide_eq_false (fun h => t2 h.2)))
                  have f2 : decide (pz < py) = false := decide_eq_false t2
                  go_wp2_with fail
                  go_quiet (fail)
                  go_wp2
                  go_roundw
                  case rel => exact ⟨k + 1, by omega, by omega, by go_num, HX.out, qk + nq, by rw [HWK.out, World.drewN_drewN]⟩
                  case measure => simp [intOf]; omega
              · have HX := Lib.hid (HNX.out (by rw [HLB.out]; exact decide_eq_false (fun h => t1 h.1)))
                have f1 : decide (px < py) = false := decide_eq_false t1
                go_wp2_with fail
                go_quiet (fail)
                go_wp2
                go_roundw
                case rel => exact ⟨k + 1, by omega, by omega, by go_num, HX.out, qk + nq, by rw [HWK.out, World.drewN_drewN]⟩
                case measure => simp [intOf]; omega
            · obtain rfl : k = n := by omega
              have HX : Hid (noneTo line p i (j + 1) (j + 2)) := noneTo_j (by rw [HL.out]; exact HNO3.out)
              go_wp2
              go_roundw
              case rel => exact ⟨j + 1, by omega, by omega, by go_num, HX.out, qk, HWK.out⟩
              case measure => simp [intOf]; omega
        · obtain rfl : j = n := by omega
          have HX : Hid (noneTo line p (i + 1) (i + 2) (i + 3)) := noneTo_i (m := j + 1) (by rw [HL.out]; exact HNO2.out)
          go_wp2
          go_roundw
          case rel => exact ⟨i + 1, by omega, by go_num, HX.out, qj, HWJ.out⟩
          case measure => simp [intOf]; omega
    · obtain rfl : i = n := by omega
      have HX : Hid (res = true) := by
        show _ = _
        rw [← HRES.out]
        exact noneTo_end (j := i + 1) (k := i + 2) (by rw [HL.out]; exact HNO.out)
      go_wp2
      go_ret
      exact ⟨by rw [HX.out]; rfl, by rw [HWI.out]; exact below_drewN HB1.out _⟩
end Go.Proofs.Ytcjhgkmodfkmoaa

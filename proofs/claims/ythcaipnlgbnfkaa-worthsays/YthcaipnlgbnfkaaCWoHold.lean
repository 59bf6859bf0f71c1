/-
  Package worth: together, satisfies and Holds: what they return; nothing that was there is written.
-/
import Derived.Test.YthcaipnlgbnfkaaCWoBase
import Derived.BigQuiet
import Derived.Deep.QuietTactic
namespace Go.Proofs.Ythcaipnlgbnfkaa
open Go.RowKit Fm
set_option linter.unusedVariables false

theorem wobit_at : ∀ s : Nat, s < 64 → ∀ x : Nat, x < 6 → (bits BinOp.and IntKind.i64 ((s : Int) / 2 ^ x) 1 == 1) = s.testBit x := by decide +kernel
theorem hI_succ (x : Int → Int) (k S : Nat) : hI x (k + 1) S = hI x k S + if S.testBit k = true then x k else 0 := by
  unfold hI
  rw [sides_succ, tI_append, tI_cons, tI_nil, Int.toNat_natCast]
  omega
theorem hI_bd {x : Int → Int} {k : Nat} (S : Nat) (h : ∀ j : Nat, j < k → -1000000000 ≤ x j ∧ x j ≤ 1000000000) : -1000000000 * (k : Int) ≤ hI x k S ∧ hI x k S ≤ 1000000000 * (k : Int) := by
  induction k with
  | zero => exact ⟨by simp [hI, tI, sides], by simp [hI, tI, sides]⟩
  | succ k ih =>
    have h1 := ih (fun j hj => h j (by omega))
    have h2 := h k (by omega)
    rw [hI_succ]
    split <;> omega

set_option maxHeartbeats 1000000 in
set_option maxRecDepth 100000 in
theorem woTog_any {X : List Int} {n S : Nat} (hb : ∀ x ∈ X, -1000000000 ≤ x ∧ x ≤ 1000000000) (hn : n ≤ 6) (hS : S < 64) (a : Option Addr) (c : Nat) (w : World) (B : Nat) (hr : Rd w B a n X) :
    Calls Try.prog 55 #[.slice a n c, .int .i64 S] w fun e w' => e = .returned (.int .i64 (hI (xI X) n S)) ∧ w = w' := by
  have HR := Lib.hid hr
  have hln : X.length = n := hr.1
  have hxb : ∀ j : Nat, j < n → -1000000000 ≤ xI X j ∧ xI X j ≤ 1000000000 := fun j hj => hb _ (getD_mem X j (by omega))
  have HXB : Hid (∀ j : Nat, j < n → -1000000000 ≤ X.getD j 0 ∧ X.getD j 0 ≤ 1000000000) := fun j hj => hxb j hj
  have HNX : Hid (∀ k, hI (xI X) (k + 1) S = hI (xI X) k S + if S.testBit k = true then X.getD k 0 else 0) := fun k => hI_succ (xI X) k S
  have HBD : Hid (∀ k, k ≤ n → -1000000000 * (k : Int) ≤ hI (xI X) k S ∧ hI (xI X) k S ≤ 1000000000 * (k : Int)) := fun k hk => hI_bd S (fun j hj => hxb j (by omega))
  have HBT : Hid (∀ k, k < n → (bits BinOp.and IntKind.i64 ((S : Int) / 2 ^ k) 1 == 1) = S.testBit k) := fun k hk => wobit_at S hS k (by omega)
  obtain ⟨H, hH⟩ : ∃ H : Nat → Int, ∀ k, hI (xI X) k S = H k := ⟨_, fun _ => rfl⟩
  rw [hH]
  have HN2 : Hid (∀ k, H (k + 1) = H k + if S.testBit k = true then X.getD k 0 else 0) := fun k => by rw [← hH, ← hH]; exact HNX.out k
  have HB2 : Hid (∀ k, k ≤ n → -1000000000 * (k : Int) ≤ H k ∧ H k ≤ 1000000000 * (k : Int)) := fun k hk => by rw [← hH]; exact HBD.out k hk
  have HZ : Hid (H 0 = 0) := by show _ = _; rw [← hH]; rfl
  clear hr hb hln hxb hH HNX HBD
  go_enter Try.func55, Try.ntmps55
  go_wp2_with fail
  go_loop [5, 10] (fun sv iv => ∃ k : Nat, k ≤ n ∧ iv = .int .i64 k ∧ sv = .int .i64 (H k)) (fun _ iv => n - (intOf iv).toNat)
  case atStart => exact ⟨0, Nat.zero_le _, rfl, by rw [HZ.out]⟩
  case round =>
    obtain ⟨k, hk, rfl, rfl⟩ := hrel
    by_cases hkn : k < n
    · obtain ⟨b, o, rfl, hb, hcell⟩ := HR.out.at_ hkn
      have hx := HXB.out k hkn
      have hs := HB2.out k hk
      have hk6 : (k : Int) ≤ 6 := by omega
      have hs1 : -6000000000 ≤ H k := by omega
      have hs2 : H k ≤ 6000000000 := by omega
      have HX := Lib.hid (HN2.out k)
      have hbt := HBT.out k hkn
      clear hs hk6
      generalize X.getD k 0 = x at *
      obtain ⟨y, hy⟩ : ∃ y, H (k + 1) = y := ⟨_, rfl⟩
      have HY := Lib.hid hy
      rw [hy] at HX
      clear hy
      generalize H k = s at *
      cases hbk : S.testBit k with
      | true =>
        rw [hbk] at HX hbt
        have e := HX.out
        rw [if_pos rfl] at e
        subst e
        clear hbk HX
        go_wp2
        go_round
        case rel => exact ⟨k + 1, by omega, by go_num, by rw [HY.out]⟩
        case measure => simp [intOf]; omega
      | false =>
        rw [hbk] at HX hbt
        have e := HX.out
        rw [if_neg (by decide), Int.add_zero] at e
        subst e
        clear hbk HX
        go_wp2
        go_round
        case rel => exact ⟨k + 1, by omega, by go_num, by rw [HY.out]⟩
        case measure => simp [intOf]; omega
    · obtain rfl : k = n := by omega
      go_wp2
      go_ret
      exact ⟨rfl, rfl⟩

/-- Each set has at least its value. -/
def satB (n : Nat) (V X : List Int) : Bool := (List.range (2 ^ n)).all fun S => decide (val V S ≤ hI (xI X) n S)

set_option maxHeartbeats 1000000 in
set_option maxRecDepth 100000 in
theorem woSat_any {n N : Nat} {V X : List Int} (g : Gm n V) (hN : 2 ^ n = N) (hb : ∀ x ∈ X, -1000000000 ≤ x ∧ x ≤ 1000000000) (a ax : Option Addr) (c cx : Nat) (w : World) (B : Nat) (hr : Rd w B a N V) (hrx : Rd w B ax n X) :
    Calls Try.prog 54 #[.slice a N c, .slice ax n cx] w fun e w' => e = .returned (.bool (satB n V X)) ∧ w = w' := by
  have h6 := g.le
  have hN64 : N ≤ 64 := by rw [← hN]; exact pow6 h6
  have QT : Hid (∀ S, S < N → Calls Try.prog 55 #[.slice ax n cx, .int .i64 S] w fun e w' => e = .returned (.int .i64 (hI (xI X) n S)) ∧ w = w') := fun S hS => woTog_any hb h6 (by omega) ax cx w B hrx
  have HBAD : Hid (∀ k, k < N → ¬ val V k ≤ hI (xI X) n k → satB n V X = false) := fun k hk h => by
    unfold satB
    rw [List.all_eq_false]
    exact ⟨k, List.mem_range.2 (by omega), by simpa using h⟩
  have HEND : Hid ((∀ j, j < N → val V j ≤ hI (xI X) n j) → satB n V X = true) := fun h => by
    unfold satB
    rw [List.all_eq_true, hN]
    exact fun j hj => decide_eq_true (h j (List.mem_range.1 hj))
  have HVB : Hid (∀ S, -1000000 ≤ val V S ∧ val V S ≤ 1000000) := g.val_bd
  have HR := Lib.hid hr
  have HVD : Hid (∀ k, V.getD k 0 = val V k) := fun _ => rfl
  clear g hN hb hr hrx
  generalize satB n V X = res at *
  generalize hI (xI X) n = H at *
  go_enter Try.func54, Try.ntmps54
  go_wp2_with fail
  go_loop [9] (fun iv => ∃ k : Nat, k ≤ N ∧ iv = .int .i64 k ∧ ∀ j, j < k → val V j ≤ H j) (fun iv => N - (intOf iv).toNat)
  case atStart => exact ⟨0, Nat.zero_le _, rfl, fun j hj => by omega⟩
  case round =>
    obtain ⟨k, hk, rfl, hall⟩ := hrel
    have HALL := Lib.hid hall
    clear hall
    by_cases hkN : k < N
    · obtain ⟨b, o, rfl, hb, hcell⟩ := HR.out.at_ hkN
      rw [HVD.out] at hcell
      have HB := Lib.hid (HBAD.out k hkN)
      have HN : Hid (val V k ≤ H k → ∀ j, j < k + 1 → val V j ≤ H j) := fun q j hj => by
        by_cases e : j = k
        · subst e; exact q
        · exact HALL.out j (by omega)
      have Q := Lib.hid (QT.out k hkN)
      generalize val V k = x at *
      generalize H k = y at *
      go_wp2_with fail
      refine Q.out.mono ?_
      rintro e w' ⟨rfl, rfl⟩
      clear Q
      by_cases q : y < x
      · obtain rfl : res = false := HB.out (by omega)
        go_wp2
        go_ret
        exact ⟨rfl, rfl⟩
      · have HX := Lib.hid (HN.out (by omega))
        go_wp2
        go_round
        case rel => exact ⟨k + 1, by omega, by go_num, HX.out⟩
        case measure => simp [intOf]; omega
    · obtain rfl : k = N := by omega
      obtain rfl : res = true := HEND.out HALL.out
      go_wp2
      go_ret
      exact ⟨rfl, rfl⟩

set_option maxHeartbeats 1000000 in
set_option maxRecDepth 100000 in
theorem wHolds : WHolds := by
  intro n a m c V ax mx cx X w hL hLx
  have HC := Lib.hid (woCheck_any n a m c V w _ hL.1 hL.2.1)
  obtain ⟨hr, hm, _⟩ := hL
  obtain ⟨hrx, hmx, _⟩ := hLx
  have hlx : X.length = mx := hrx.1
  by_cases h0 : gchk n V = 0
  · rw [h0] at HC
    have e0 : hdchk n V X = if (X.length : Int) ≠ n then 3 else if ¬ (∀ x ∈ X, -1000000000 ≤ x ∧ x ≤ 1000000000) then 1 else 0 := by unfold hdchk; rw [if_neg (by simpa using h0)]
    have HA : Hid (hdchk n V X ≠ 0 → holdA n V X = false) := fun h => by unfold holdA; rw [decide_eq_false h]; rfl
    by_cases h1 : (mx : Int) = n
    · have hne : ((mx : Int) != n) = false := by simpa using h1
      rw [if_neg (by rw [hlx]; simpa using h1)] at e0
      have QW := Lib.hid (woIn_any 1000000000 (by omega) (by omega) ax mx cx X w _ hrx hmx)
      cases hb : inB 1000000000 X with
      | false =>
        rw [hb] at QW
        rw [if_pos (fun h => by rw [inB_iff.2 h] at hb; cases hb)] at e0
        have e2 := HA.out (by rw [e0]; decide)
        rw [e0, e2]
        clear e0 e2 HA hr hrx h0 hlx hb
        go_enter Try.func16, Try.ntmps16
        go_wp2_with fail
        refine HC.out.mono ?_
        rintro e w1 ⟨rfl, rfl⟩
        clear HC
        go_wp2_with fail
        refine QW.out.mono ?_
        rintro e w1 ⟨rfl, rfl⟩
        clear QW
        go_wp2
        go_ret2
        exact ⟨rfl, Below.refl _ w⟩
      | true =>
        rw [hb] at QW
        have hbx := inB_iff.1 hb
        rw [if_neg (by simpa using hbx)] at e0
        obtain ⟨k, rfl, g⟩ := gchk_ok h0
        obtain rfl : mx = k := by omega
        have h6 := g.le
        obtain ⟨N, hN⟩ : ∃ N, 2 ^ mx = N := ⟨_, rfl⟩
        have hN64 : N ≤ 64 := by rw [← hN]; exact pow6 h6
        have hN1 : 1 ≤ N := by rw [← hN]; exact pow1 mx
        have hmN : m = N := by rw [← hN, ← g.len]; exact hr.1.symm
        subst hmN
        have QS : Hid (∀ j, Calls Try.prog 54 #[.slice a m c, .slice ax mx cx] (w.drewN j) fun e w' => e = .returned (.bool (satB mx V X)) ∧ w' = w.drewN j) := fun j => (woSat_any g hN hbx a ax c cx (w.drewN j) _ (hr.drewN j) (hrx.drewN j)).mono fun e w' ⟨h1, h2⟩ => ⟨h1, h2.symm⟩
        obtain ⟨E, hE⟩ : ∃ E : Nat, m - 1 = E := ⟨_, rfl⟩
        have zE : (m : Int) - 1 = (E : Int) := by omega
        have zE2 : (E : Int) < (m : Int) := by omega
        have QT : Hid (∀ j, Calls Try.prog 55 #[.slice ax mx cx, .int .i64 E] (w.drewN j) fun e w' => e = .returned (.int .i64 (hI (xI X) mx E)) ∧ w' = w.drewN j) := fun j => (woTog_any hbx h6 (by omega) ax cx (w.drewN j) _ (hrx.drewN j)).mono fun e w' ⟨h1, h2⟩ => ⟨h1, h2.symm⟩
        have e3 : holdA mx V X = (satB mx V X && decide (hI (xI X) mx E = val V E)) := by
          unfold holdA coreB
          rw [e0, Int.toNat_natCast, hN, hE]
          unfold satB
          rw [hN]
          rfl
        obtain ⟨b, o, rfl, hbb, hcell0⟩ := hr.at_ (k := E) (by omega)
        have hcell : w.cell? ⟨b, o + E, none⟩ = some (.int .i64 (val V E)) := hcell0
        clear hcell0
        rw [e0, e3]
        clear e0 e3 HA hr hrx hlx hb hbx hN g hE h0
        generalize hI (xI X) mx E = y at *
        generalize val V E = x at *
        cases hsat : satB mx V X with
        | false =>
          rw [hsat] at QS
          clear QT
          go_enter Try.func16, Try.ntmps16
          go_wp2_with fail
          refine HC.out.mono ?_
          rintro e w1 ⟨rfl, rfl⟩
          clear HC
          go_wp2_with fail
          refine QW.out.mono ?_
          rintro e w1 ⟨rfl, rfl⟩
          clear QW
          go_wp2_with fail
          go_quiet ((go_at_call 54; exact Calls.quiet_of_same (QS.out _)))
          go_wp2
          go_ret2
          exact ⟨rfl, below_drewN (Below.refl _ w) _⟩
        | true =>
          rw [hsat] at QS
          obtain ⟨r, hre⟩ : ∃ r, (y == x) = r := ⟨_, rfl⟩
          have e4 : (true && decide (y = x)) = r := by rw [← hre]; by_cases q : y = x <;> simp [q]
          rw [e4]
          clear e4
          go_enter Try.func16, Try.ntmps16
          go_wp2_with fail
          refine HC.out.mono ?_
          rintro e w1 ⟨rfl, rfl⟩
          clear HC
          go_wp2_with fail
          refine QW.out.mono ?_
          rintro e w1 ⟨rfl, rfl⟩
          clear QW
          go_wp2_with fail
          go_quiet ((first | (go_at_call 54; exact Calls.quiet_of_same (QS.out _)) | (go_at_call 55; exact Calls.quiet_of_same (QT.out _))))
          go_wp2
          go_ret2
          exact ⟨rfl, below_drewN (Below.refl _ w) _⟩
    · have hne : ((mx : Int) != n) = true := by simpa using h1
      rw [if_pos (by rw [hlx]; simpa using h1)] at e0
      have e2 := HA.out (by rw [e0]; decide)
      rw [e0, e2]
      clear e0 e2 HA hr hrx h0 hlx
      go_enter Try.func16, Try.ntmps16
      go_wp2_with fail
      refine HC.out.mono ?_
      rintro e w1 ⟨rfl, rfl⟩
      clear HC
      go_wp2
      go_ret2
      exact ⟨rfl, Below.refl _ w⟩
  · have e1 : hdchk n V X = gchk n V := by unfold hdchk; rw [if_pos h0]
    have e2 : holdA n V X = false := by unfold holdA; rw [decide_eq_false (by rw [e1]; exact h0)]; rfl
    rw [e1, e2]
    have hne : (gchk n V != 0) = true := by simpa using h0
    clear e1 e2 h0 hr hrx hlx
    generalize gchk n V = r at *
    go_enter Try.func16, Try.ntmps16
    go_wp2_with fail
    refine HC.out.mono ?_
    rintro e w1 ⟨rfl, rfl⟩
    clear HC
    go_wp2
    go_ret2
    exact ⟨rfl, Below.refl _ w⟩
end Go.Proofs.Ythcaipnlgbnfkaa

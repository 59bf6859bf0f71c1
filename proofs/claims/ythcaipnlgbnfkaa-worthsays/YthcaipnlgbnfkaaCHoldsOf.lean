/-
  plumeref.Heavy at any ints, HoldsOf, RoundOf, WorthErr: what they answer; nothing that was there is written.
-/
import Derived.Test.YthcaipnlgbnfkaaWorthP
import Derived.Test.YthcaipnlgbnfkaaCFuncI
import Derived.BigQuiet
import Derived.Deep.QuietTactic
namespace Go.Proofs.Ythcaipnlgbnfkaa
open Go.RowKit Fm
set_option linter.unusedVariables false

/-- What the members of a set have, from the front. -/
def hvI : List Int → Nat → Int
  | [], _ => 0
  | x :: t, S => x * ((S % 2 : Nat) : Int) + hvI t (S / 2)
theorem tI_last (n : Nat) (φ : Int → Int) : tI (sides (n + 1)) φ = tI (sides n) φ + φ n := by rw [sides_succ, tI_append, tI_cons, tI_nil]; omega
theorem tI_shift (φ : Int → Int) (n : Nat) : tI (sides (n + 1)) φ = φ 0 + tI (sides n) (fun y => φ (y + 1)) := by
  induction n with
  | zero => rw [tI_last]; simp [tI, sides]
  | succ n ih => rw [tI_last, ih, tI_last]; simp only [Int.natCast_succ]; omega
theorem hvI_hI : ∀ (X : List Int) (S : Nat), hvI X S = hI (xI X) X.length S := by
  intro X
  induction X with
  | nil => intro S; rfl
  | cons x t ih =>
    intro S
    rw [hvI, ih, List.length_cons]
    unfold hI
    rw [tI_shift]
    congr 1
    · show _ = if S.testBit 0 = true then xI (x :: t) 0 else 0
      have e : xI (x :: t) 0 = x := rfl
      rw [e, Nat.testBit_zero]
      have : S % 2 = 0 ∨ S % 2 = 1 := by omega
      rcases this with h | h <;> simp [h]
    · refine tI_congr (fun y hy => ?_)
      have hy := mem_sides.1 hy
      obtain ⟨k, rfl⟩ : ∃ k : Nat, y = k := ⟨y.toNat, by omega⟩
      have e1 : ((k : Int) + 1).toNat = k + 1 := by omega
      rw [e1, Int.toNat_natCast, Nat.testBit_succ]
      have e2 : xI (x :: t) ((k : Int) + 1) = xI t k := by
        unfold xI
        rw [e1, Int.toNat_natCast]
        rfl
      rw [e2]
theorem hvI_bd : ∀ (X : List Int) (S : Nat), (∀ x ∈ X, -1000000000 ≤ x ∧ x ≤ 1000000000) → -1000000000 * (X.length : Int) ≤ hvI X S ∧ hvI X S ≤ 1000000000 * (X.length : Int) := by
  intro X
  induction X with
  | nil => intro S _; exact ⟨by simp [hvI], by simp [hvI]⟩
  | cons x t ih =>
    intro S h
    rw [hvI, List.length_cons]
    have h1 := h x (List.mem_cons_self)
    have h2 := ih (S / 2) (fun y hy => h y (List.mem_cons_of_mem _ hy))
    have : S % 2 = 0 ∨ S % 2 = 1 := by omega
    rcases this with q | q <;> rw [q] <;> simp <;> omega

set_option maxHeartbeats 1000000 in
set_option maxRecDepth 100000 in
theorem heavyI_zero (a : Option Addr) (c S : Nat) (w : World) : Calls Try.prog 62 #[.slice a 0 c, .int .i64 S] w fun e w' => e = .returned (.int .i64 0) ∧ ∃ m, w' = w.drewN m := by
  go_enter Try.func62, Try.ntmps62
  go_wp2
  go_ret
  exact ⟨rfl, 0, rfl⟩

set_option maxHeartbeats 2000000 in
set_option maxRecDepth 100000 in
theorem heavyI_step (x : Int) (hx1 : -1000000000 ≤ x) (hx2 : x ≤ 1000000000) (n : Nat) (hn : n ≤ 6) (b o c : Nat) (hc : n + 1 ≤ c) (hcm : c ≤ 9223372036854775807) (S : Nat) (hS : S ≤ 1000000) (w : World) (hcell : w.cell? ⟨b, o, none⟩ = some (.int .i64 x)) (G : Int) (hG1 : -7000000000 ≤ G) (hG2 : G ≤ 7000000000)
    (IH1 : c ≠ 1 → ∀ j, Calls Try.prog 62 #[.slice (some ⟨b, o + 1, none⟩) n (c - 1), .int .i64 ((S / 2 : Nat) : Int)] (w.drewN j) fun e w' => e = .returned (.int .i64 G) ∧ ∃ m, w' = (w.drewN j).drewN m)
    (IH2 : c = 1 → ∀ j, Calls Try.prog 62 #[.slice (some ⟨b, o, none⟩) n 0, .int .i64 ((S / 2 : Nat) : Int)] (w.drewN j) fun e w' => e = .returned (.int .i64 G) ∧ ∃ m, w' = (w.drewN j).drewN m) :
    Calls Try.prog 62 #[.slice (some ⟨b, o, none⟩) (n + 1) c, .int .i64 S] w fun e w' => e = .returned (.int .i64 (x * ((S % 2 : Nat) : Int) + G)) ∧ ∃ m, w' = w.drewN m := by
  obtain ⟨s2, hs2⟩ : ∃ k, S % 2 = k := ⟨_, rfl⟩
  obtain ⟨s3, hs3⟩ : ∃ k, S / 2 = k := ⟨_, rfl⟩
  have d1 : (S : Int).tmod 2 = (s2 : Int) := by rw [← hs2]; rfl
  have d2 : (S : Int) % 2 = (s2 : Int) := by omega
  have d3 : (S : Int).tdiv 2 = (s3 : Int) := by rw [← hs3]; rfl
  have d4 : (S : Int) / 2 = (s3 : Int) := by omega
  obtain ⟨X, hX⟩ : ∃ X : Int, x * (s2 : Int) = X := ⟨_, rfl⟩
  have lX : -1000000000 ≤ X ∧ X ≤ 1000000000 := by
    rw [← hX]
    have : s2 = 0 ∨ s2 = 1 := by omega
    rcases this with q | q <;> rw [q] <;> simp <;> omega
  obtain ⟨lX1, lX2⟩ := lX
  rw [hs3] at IH1 IH2
  rw [hs2, hX]
  have ne0 : (((n + 1 : Nat) : Int) == 0) = false := beq_eq_false_iff_ne.2 (by omega)
  have ne1 : ((n : Int) + 1 == 0) = false := beq_eq_false_iff_ne.2 (by omega)
  have Q1 := Lib.hid IH1
  have Q2 := Lib.hid IH2
  clear hs2 hs3 IH1 IH2
  by_cases h1 : c = 1
  · have QC := Lib.hid (Q2.out h1)
    have hn0 : n = 0 := by omega
    subst h1
    subst hn0
    clear Q1 Q2
    go_enter Try.func62, Try.ntmps62
    go_wp2_with fail
    go_quiet ((go_at_call 62; exact Calls.quiet_of (QC.out _)))
    go_wp2
    go_ret
    exact ⟨by simp, _, rfl⟩
  · have QC := Lib.hid (Q1.out h1)
    clear Q1 Q2
    go_enter Try.func62, Try.ntmps62
    go_wp2_with fail
    go_quiet ((go_at_call 62; exact Calls.quiet_of (QC.out _)))
    go_wp2
    go_ret
    exact ⟨by simp, _, rfl⟩
theorem heavyI_list : ∀ (P : List Int), (∀ x ∈ P, -1000000000 ≤ x ∧ x ≤ 1000000000) → P.length ≤ 6 → ∀ (S : Nat), S ≤ 1000000 → ∀ (a : Option Addr) (c : Nat) (w : World) (B : Nat), P.length ≤ c → c ≤ 9223372036854775807 → Rd w B a P.length P →
    Calls Try.prog 62 #[.slice a P.length c, .int .i64 S] w fun e w' => e = .returned (.int .i64 (hvI P S)) ∧ ∃ m, w' = w.drewN m := by
  intro P
  induction P with
  | nil => intro _ _ S _ a c w B _ _ _; exact heavyI_zero a c S w
  | cons x P ih =>
    intro hb hl S hS a c w B hc hcm hr
    rw [List.length_cons] at hl hc hr ⊢
    obtain ⟨b, o, rfl, hbB, hcell⟩ := hr.at_ (k := 0) (by omega)
    rw [Nat.add_zero] at hcell
    have hx := hb x (List.mem_cons_self)
    have hbt : ∀ y ∈ P, -1000000000 ≤ y ∧ y ≤ 1000000000 := fun y hy => hb y (List.mem_cons_of_mem _ hy)
    have hG := hvI_bd P (S / 2) hbt
    rw [hvI]
    refine heavyI_step x hx.1 hx.2 P.length (by omega) b o c hc hcm S hS w hcell _ (by omega) (by omega) (fun h1 j => ?_) (fun h1 j => ?_)
    · have hr2 : Rd (w.drewN j) B (some ⟨b, o + 1, none⟩) P.length P := by
        have := hr.cutL 1 (by omega)
        rw [Nat.add_sub_cancel] at this
        exact this.drewN j
      exact ih hbt (by omega) (S / 2) (by omega) _ (c - 1) (w.drewN j) B (by omega) (by omega) hr2
    · have h0 : P.length = 0 := by omega
      have hP : P = [] := List.eq_nil_of_length_eq_zero h0
      subst hP
      exact heavyI_zero _ 0 (S / 2) (w.drewN j)

/-- The first k sets have no more than their members. -/
def coTo (n : Nat) (V X : List Int) (k : Nat) : Bool := (List.range k).all fun S => decide (val V S ≤ hI (xI X) n S)
theorem coTo_succ (n : Nat) (V X : List Int) (k : Nat) : coTo n V X (k + 1) = (coTo n V X k && decide (val V k ≤ hI (xI X) n k)) := by
  unfold coTo; rw [List.range_succ, List.all_append]; simp

set_option maxHeartbeats 2000000 in
set_option maxRecDepth 100000 in
theorem holdsOf_any {n N : Nat} {V X : List Int} (g : Gm n V) (hN : 2 ^ n = N) (hX : X.length = n) (hb : ∀ x ∈ X, -1000000000 ≤ x ∧ x ≤ 1000000000) (a ax : Option Addr) (c cx : Nat) (hcx : n ≤ cx) (hcm : cx ≤ 9223372036854775807) (w : World) (hr : Rd w w.heap.size a N V) (hrx : Rd w w.heap.size ax n X) :
    Calls Try.prog 27 #[.slice a N c, .slice ax n cx] w fun e w' => e = .returned (.bool (coreB n V X)) ∧ Below w.heap.size w w' := by
  have h1 := g.pos
  have h6 := g.le
  have hN64 : N ≤ 64 := by rw [← hN]; exact pow6 h6
  have hN1 : 1 ≤ N := by rw [← hN]; exact pow1 n
  have QH : Hid (∀ (S j : Nat), S ≤ 64 → Calls Try.prog 62 #[.slice ax n cx, .int .i64 S] (w.drewN j) fun e w' => e = .returned (.int .i64 (hI (xI X) n S)) ∧ ∃ m, w' = (w.drewN j).drewN m) := fun S j hS => by
    subst hX
    have := heavyI_list X hb (by omega) S (by omega) ax cx (w.drewN j) w.heap.size hcx hcm (hrx.drewN j)
    rw [hvI_hI] at this
    exact this
  have HCB : Hid (coreB n V X = (coTo n V X N && decide (hI (xI X) n (N - 1) = val V (N - 1)))) := by show _ = _; rw [← hN]; rfl
  have HCS := Lib.hid (coTo_succ n V X)
  have HNO : Hid (∀ k, k < N → ¬ val V k ≤ hI (xI X) n k → coreB n V X = false) := fun k hk h => by
    rw [HCB.out]
    have : coTo n V X N = false := by
      unfold coTo
      rw [List.all_eq_false]
      exact ⟨k, List.mem_range.2 hk, by simpa using h⟩
    rw [this]
    rfl
  have HVB : Hid (∀ S, -1000000 ≤ val V S ∧ val V S ≤ 1000000) := g.val_bd
  obtain ⟨bv, ov, rfl, hbv, hcv⟩ := hr.2 (by omega)
  have HCV : Hid (∀ j, j < N → w.cell? ⟨bv, ov + j, none⟩ = some (.int .i64 (val V j))) := hcv
  clear hr hrx hb g hcv hN
  generalize coreB n V X = res at *
  generalize hI (xI X) n = hx at *
  go_enter Try.func27, Try.ntmps27
  go_wp2_with fail
  go_loopw [9] (fun iv wr => ∃ (k d : Nat), k ≤ N ∧ iv = .int .i64 k ∧ coTo n V X k = true ∧ Hid (wr = w.drewN d)) (fun iv _ => N - (intOf iv).toNat)
  case atStart => exact ⟨0, 0, Nat.zero_le _, rfl, rfl, (show Hid _ from by show _ = _; rfl)⟩
  case round =>
    obtain ⟨k, d, hk, rfl, hco, HWR⟩ := hrel
    have HCO := Lib.hid hco
    clear hco
    by_cases hkN : k < N
    · have r1 : wr.cell? ⟨bv, ov + k, none⟩ = some (.int .i64 (val V k)) := by rw [HWR.out]; exact HCV.out k hkN
      have Q := QH.out k d (by omega)
      rw [← HWR.out] at Q
      have HQ := Lib.hid Q
      have hcs := HCS.out k
      rw [HCO.out, Bool.true_and] at hcs
      have HX := Lib.hid hcs
      have HF := Lib.hid (HNO.out k hkN)
      clear Q hcs
      generalize val V k = y at *
      generalize hx k = z at *
      go_wp2_with fail
      refine HQ.out.mono ?_
      rintro e w2 ⟨rfl, m, rfl⟩
      clear HQ
      by_cases q : y ≤ z
      · have q1 : ¬ z < y := by omega
        go_wp2
        go_roundw
        case rel => exact ⟨k + 1, d + m, by omega, by go_num, by rw [HX.out]; exact decide_eq_true q, (show Hid _ from by show _ = _; rw [HWR.out, World.drewN_drewN])⟩
        case measure => simp [intOf]; omega
      · have q1 : z < y := by omega
        obtain rfl : res = false := HF.out (by omega)
        go_wp2
        go_ret
        exact ⟨rfl, by rw [HWR.out, World.drewN_drewN]; exact below_drewN (Below.refl _ w) _⟩
    · obtain rfl : k = N := by omega
      have hcb := HCB.out
      rw [HCO.out, Bool.true_and] at hcb
      have HR := Lib.hid hcb
      obtain ⟨j1, hj1⟩ : ∃ j1 : Nat, k - 1 = j1 := ⟨_, rfl⟩
      have z1 : (k : Int) - 1 = (j1 : Int) := by omega
      have z2 : (j1 : Int) < (k : Int) := by omega
      rw [hj1] at HR
      have r1 : wr.cell? ⟨bv, ov + j1, none⟩ = some (.int .i64 (val V j1)) := by rw [HWR.out]; exact HCV.out j1 (by omega)
      have HQ : Hid (∀ j, Calls Try.prog 62 #[.slice ax n cx, .int .i64 j1] (wr.drewN j) fun e w' => e = .returned (.int .i64 (hx j1)) ∧ ∃ m, w' = (wr.drewN j).drewN m) := fun j => by
        have := QH.out j1 (d + j) (by omega)
        rw [← World.drewN_drewN, ← HWR.out] at this
        exact this
      have hbe : Below w.heap.size w wr := by rw [HWR.out]; exact below_drewN (Below.refl _ w) d
      clear hj1 hcb QH HCB HNO HCS HCV HWR
      generalize val V j1 = y at *
      generalize hx j1 = z at *
      go_wp2_with fail
      go_quiet ((go_at_call 62; exact Calls.quiet_of (HQ.out _)))
      go_wp2
      go_ret
      exact ⟨by rw [HR.out]; first | rfl | simp, below_drewN hbe _⟩
end Go.Proofs.Ythcaipnlgbnfkaa

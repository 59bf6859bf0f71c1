/-
  plumeref.Heavy: the weight of a set; plumeref.PowerErr: what it answers; nothing is written.
-/
import Derived.Test.YtdoidajdfnbiiaaPowerP
import Derived.BigQuiet
import Derived.Deep.QuietTactic
namespace Go.Proofs.Ytdoidajdfnbiiaa
open Go.RowKit Fm
set_option linter.unusedVariables false

/-- The weight of a set, from the front. -/
def hvL : List Nat → Nat → Nat
  | [], _ => 0
  | x :: t, S => x * (S % 2) + hvL t (S / 2)
theorem sN_shift (f : Nat → Nat) (n : Nat) : sN f (n + 1) = f 0 + sN (fun i => f (i + 1)) n := by
  induction n with
  | zero => simp [sN]
  | succ n ih => rw [sN, ih, sN]; omega
theorem hvL_hv : ∀ (L : List Nat) (S : Nat), hvL L S = hv (fun i => L.getD i 0) L.length S := by
  intro L
  induction L with
  | nil => intro S; rfl
  | cons x t ih =>
    intro S
    rw [hvL, ih, List.length_cons]
    unfold hv
    rw [sN_shift]
    congr 1
    · rw [Nat.testBit_zero]
      have : S % 2 = 0 ∨ S % 2 = 1 := by omega
      rcases this with h | h <;> simp [h]
    · refine sN_congr (fun i _ => ?_)
      rw [Nat.testBit_succ]
      rfl
theorem hvL_le : ∀ (L : List Nat) (S : Nat), (∀ x ∈ L, x ≤ 1000) → hvL L S ≤ 1000 * L.length := by
  intro L
  induction L with
  | nil => intro S _; exact Nat.le_refl _
  | cons x t ih =>
    intro S h
    rw [hvL, List.length_cons]
    have h1 := h x (List.mem_cons_self)
    have h2 := ih (S / 2) (fun y hy => h y (List.mem_cons_of_mem _ hy))
    have h3 : x * (S % 2) ≤ x := by
      have : S % 2 ≤ 1 := by omega
      have := Nat.mul_le_mul_left x this
      omega
    omega

set_option maxHeartbeats 1000000 in
set_option maxRecDepth 100000 in
theorem heavy_zero (a : Option Addr) (c S : Nat) (w : World) : Calls Try.prog 16 #[.slice a 0 c, .int .i64 S] w fun e w' => e = .returned (.int .i64 ((0 : Nat) : Int)) ∧ ∃ m, w' = w.drewN m := by
  go_enter Try.func16, Try.ntmps16
  go_wp2
  go_ret
  exact ⟨rfl, 0, rfl⟩

set_option maxHeartbeats 2000000 in
set_option maxRecDepth 100000 in
theorem heavy_step (x : Nat) (hx : x ≤ 1000) (n : Nat) (hn : n ≤ 6) (b o c : Nat) (hc : n + 1 ≤ c) (hcm : c ≤ 9223372036854775807) (S : Nat) (hS : S ≤ 1000000) (w : World) (hcell : w.cell? ⟨b, o, none⟩ = some (.int .i64 x)) (G : Nat) (hG : G ≤ 6000)
    (IH1 : c ≠ 1 → ∀ j, Calls Try.prog 16 #[.slice (some ⟨b, o + 1, none⟩) n (c - 1), .int .i64 ((S / 2 : Nat) : Int)] (w.drewN j) fun e w' => e = .returned (.int .i64 G) ∧ ∃ m, w' = (w.drewN j).drewN m)
    (IH2 : c = 1 → ∀ j, Calls Try.prog 16 #[.slice (some ⟨b, o, none⟩) n 0, .int .i64 ((S / 2 : Nat) : Int)] (w.drewN j) fun e w' => e = .returned (.int .i64 G) ∧ ∃ m, w' = (w.drewN j).drewN m) :
    Calls Try.prog 16 #[.slice (some ⟨b, o, none⟩) (n + 1) c, .int .i64 S] w fun e w' => e = .returned (.int .i64 ((x * (S % 2) + G : Nat) : Int)) ∧ ∃ m, w' = w.drewN m := by
  obtain ⟨s2, hs2⟩ : ∃ k, S % 2 = k := ⟨_, rfl⟩
  obtain ⟨s3, hs3⟩ : ∃ k, S / 2 = k := ⟨_, rfl⟩
  have d1 : (S : Int).tmod 2 = (s2 : Int) := by rw [← hs2]; rfl
  have d2 : (S : Int) % 2 = (s2 : Int) := by omega
  have d3 : (S : Int).tdiv 2 = (s3 : Int) := by rw [← hs3]; rfl
  have d4 : (S : Int) / 2 = (s3 : Int) := by omega
  obtain ⟨X, hX⟩ : ∃ X : Nat, x * s2 = X := ⟨_, rfl⟩
  have m1 : (x : Int) * (s2 : Int) = (X : Int) := by rw [← hX, Int.natCast_mul]
  have lX : X ≤ 1000 := by
    rw [← hX]
    have : s2 ≤ 1 := by omega
    have := Nat.mul_le_mul_left x this
    omega
  rw [hs3] at IH1 IH2
  rw [hs2, hX]
  have ne0 : (((n + 1 : Nat) : Int) == 0) = false := beq_eq_false_iff_ne.2 (by omega)
  have ne1 : ((n : Int) + 1 == 0) = false := beq_eq_false_iff_ne.2 (by omega)
  have Q1 := Lib.hid IH1
  have Q2 := Lib.hid IH2
  clear hs2 hs3 hX IH1 IH2
  by_cases h1 : c = 1
  · have QC := Lib.hid (Q2.out h1)
    have hn0 : n = 0 := by omega
    subst h1
    subst hn0
    clear Q1 Q2
    go_enter Try.func16, Try.ntmps16
    go_wp2_with fail
    go_quiet ((go_at_call 16; exact Calls.quiet_of (QC.out _)))
    go_wp2
    go_ret
    exact ⟨by simp, _, rfl⟩
  · have QC := Lib.hid (Q1.out h1)
    clear Q1 Q2
    go_enter Try.func16, Try.ntmps16
    go_wp2_with fail
    go_quiet ((go_at_call 16; exact Calls.quiet_of (QC.out _)))
    go_wp2
    go_ret
    exact ⟨by simp, _, rfl⟩
theorem heavy_list : ∀ (P : List Int), (∀ x ∈ P, 0 ≤ x ∧ x ≤ 1000) → P.length ≤ 6 → ∀ (S : Nat), S ≤ 1000000 → ∀ (a : Option Addr) (c : Nat) (w : World) (B : Nat), P.length ≤ c → c ≤ 9223372036854775807 → Rd w B a P.length P →
    Calls Try.prog 16 #[.slice a P.length c, .int .i64 S] w fun e w' => e = .returned (.int .i64 (hvL (P.map Int.toNat) S)) ∧ ∃ m, w' = w.drewN m := by
  intro P
  induction P with
  | nil => intro _ _ S _ a c w B _ _ _; exact heavy_zero a c S w
  | cons x P ih =>
    intro hb hl S hS a c w B hc hcm hr
    rw [List.length_cons] at hl hc hr ⊢
    obtain ⟨b, o, rfl, hbB, hcell⟩ := hr.at_ (k := 0) (by omega)
    rw [Nat.add_zero] at hcell
    have hx := hb x (List.mem_cons_self)
    have hbt : ∀ y ∈ P, 0 ≤ y ∧ y ≤ 1000 := fun y hy => hb y (List.mem_cons_of_mem _ hy)
    obtain ⟨k, hk⟩ : ∃ k : Nat, x = k := ⟨x.toNat, by omega⟩
    have hG : hvL (P.map Int.toNat) (S / 2) ≤ 6000 := by
      have := hvL_le (P.map Int.toNat) (S / 2) (fun y hy => by rw [List.mem_map] at hy; obtain ⟨z, hz, rfl⟩ := hy; have := hbt z hz; omega)
      rw [List.length_map] at this
      omega
    have e : hvL ((x :: P).map Int.toNat) S = k * (S % 2) + hvL (P.map Int.toNat) (S / 2) := by rw [List.map_cons, hvL, hk, Int.toNat_natCast]
    rw [e]
    have hc0 : w.cell? ⟨b, o, none⟩ = some (.int .i64 (k : Int)) := by rw [hcell, ← hk]; rfl
    refine heavy_step k (by omega) P.length (by omega) b o c hc hcm S hS w hc0 _ hG (fun h1 j => ?_) (fun h1 j => ?_)
    · have hr2 : Rd (w.drewN j) B (some ⟨b, o + 1, none⟩) P.length P := by
        have := hr.cutL 1 (by omega)
        rw [Nat.add_sub_cancel] at this
        exact this.drewN j
      exact ih hbt (by omega) (S / 2) (by omega) _ (c - 1) (w.drewN j) B (by omega) (by omega) hr2
    · have h0 : P.length = 0 := by omega
      have hP : P = [] := List.eq_nil_of_length_eq_zero h0
      subst hP
      exact heavy_zero _ 0 (S / 2) (w.drewN j)
theorem heavy_any {P : List Int} (hb : ∀ x ∈ P, 0 ≤ x ∧ x ≤ 1000) {n : Nat} (hn : P.length = n) (h6 : n ≤ 6) {S : Nat} (hS : S ≤ 1000000) (a : Option Addr) (c : Nat) (w : World) (B : Nat) (hc : n ≤ c) (hcm : c ≤ 9223372036854775807) (hr : Rd w B a n P) :
    Calls Try.prog 16 #[.slice a n c, .int .i64 S] w fun e w' => e = .returned (.int .i64 (hv (wt P) n S)) ∧ ∃ m, w' = w.drewN m := by
  subst hn
  have h := heavy_list P hb h6 S hS a c w B hc hcm hr
  rw [hvL_hv, List.length_map] at h
  have e : hv (fun i => (P.map Int.toNat).getD i 0) P.length S = hv (wt P) P.length S := sN_congr (fun j hj => by
    have : (P.map Int.toNat).getD j 0 = wt P j := by
      unfold wt
      rw [List.getD_eq_getElem?_getD, List.getElem?_map, List.getD_eq_getElem?_getD]
      cases P[j]? <;> rfl
    dsimp only
    rw [this])
  rw [e] at h
  exact h

set_option maxHeartbeats 1000000 in
set_option maxRecDepth 100000 in
theorem powerErr_any (a : Option Addr) (m c : Nat) (P : List Int) (q : Int) (w : World) (B : Nat) (hr : Rd w B a m P) (hm : m ≤ 17592186044416) :
    Calls Try.prog 12 #[.slice a m c, .int .i64 q] w fun e w' => e = .returned (.int .i64 (wchk P q)) ∧ w = w' := by
  have hl := hr.1
  have HR := Lib.hid hr
  have HL := Lib.hid hl
  obtain ⟨res, hres⟩ : ∃ res, wchk P q = res := ⟨_, rfl⟩
  rw [hres]
  unfold wchk at hres
  rw [hl] at hres
  by_cases h0 : m = 0
  · rw [if_pos (.inl h0)] at hres
    have g0 : ((m : Int) == 0) = true := by rw [beq_iff_eq]; omega
    have HX := Lib.hid hres
    clear h0 hr hl hres
    go_enter Try.func12, Try.ntmps12
    go_wp2
    go_ret
    exact ⟨by rw [← HX.out]; rfl, rfl⟩
  · have g0 : ((m : Int) == 0) = false := beq_eq_false_iff_ne.2 (by omega)
    by_cases h6 : 6 < m
    · rw [if_pos (.inr h6)] at hres
      have g1 : (6 : Int) < (m : Int) := by omega
      have HX := Lib.hid hres
      clear h0 hr hl hres
      go_enter Try.func12, Try.ntmps12
      go_wp2
      go_ret
      exact ⟨by rw [← HX.out]; rfl, rfl⟩
    · rw [if_neg (by omega)] at hres
      have g1 : ¬ (6 : Int) < (m : Int) := by omega
      have HRES := Lib.hid hres
      clear hr hl hres
      go_enter Try.func12, Try.ntmps12
      go_wp2_with fail
      go_loop [5, 18] (fun sv iv => ∃ (k : Nat) (s : Int), k ≤ m ∧ iv = .int .i64 k ∧ sv = .int .i64 s ∧ s = (P.take k).sum ∧ 0 ≤ s ∧ s ≤ 1000 * (k : Int) ∧ (∀ x ∈ P.take k, 0 ≤ x ∧ x ≤ 1000)) (fun _ iv => m - (intOf iv).toNat)
      case atStart => exact ⟨0, 0, Nat.zero_le _, rfl, rfl, rfl, by omega, by omega, fun x hx => by simp at hx⟩
      case round =>
        obtain ⟨k, s, hk, rfl, rfl, hs, h1, h2, hall⟩ := hrel
        have HS := Lib.hid hs
        have HA := Lib.hid hall
        clear hs hall
        by_cases hkm : k < m
        · obtain ⟨b, o, rfl, hb, hcell⟩ := HR.out.at_ hkm
          have hkl : k < P.length := by rw [HL.out]; omega
          have HN : Hid ((P.take (k + 1)).sum = (P.take k).sum + P.getD k 0) := by show _ = _; rw [take_succ_getD P k hkl, List.sum_append]; simp
          have HM : Hid (0 ≤ P.getD k 0 ∧ P.getD k 0 ≤ 1000 → ∀ x ∈ P.take (k + 1), 0 ≤ x ∧ x ≤ 1000) := fun h x hx => by
            rw [take_succ_getD P k hkl, List.mem_append, List.mem_singleton] at hx
            rcases hx with hx | rfl
            · exact HA.out x hx
            · exact h
          have HBAD : Hid (¬ (0 ≤ P.getD k 0 ∧ P.getD k 0 ≤ 1000) → res = 1) := fun h => by
            rw [← HRES.out, if_pos (fun q => h (q _ (getD_mem P k hkl)))]
          clear hkl
          generalize P.getD k 0 = x at *
          by_cases hx0 : x < 0
          · have HX := Lib.hid (HBAD.out (by omega))
            go_wp2
            go_ret
            exact ⟨by rw [HX.out]; rfl, rfl⟩
          · by_cases hx1 : 1000 < x
            · have HX := Lib.hid (HBAD.out (by omega))
              go_wp2
              go_ret
              exact ⟨by rw [HX.out]; rfl, rfl⟩
            · have HX := Lib.hid (HM.out (by omega))
              go_wp2
              go_round
              case rel => exact ⟨k + 1, s + x, by omega, by go_num, rfl, by rw [HN.out, HS.out], by omega, by omega, HX.out⟩
              case measure => simp [intOf]; omega
        · obtain rfl : k = m := by omega
          have ht : P.take k = P := List.take_of_length_le (by rw [HL.out]; exact Nat.le_refl _)
          rw [ht] at HS HA
          have hr2 := HRES.out
          rw [if_neg (by simpa using HA.out), ← HS.out] at hr2
          by_cases q1 : q < 1
          · rw [if_pos (.inl q1)] at hr2
            have HX := Lib.hid hr2
            clear hr2 ht
            go_wp2
            go_ret
            exact ⟨by rw [← HX.out]; rfl, rfl⟩
          · by_cases q2 : s < q
            · rw [if_pos (.inr q2)] at hr2
              have HX := Lib.hid hr2
              clear hr2 ht
              go_wp2
              go_ret
              exact ⟨by rw [← HX.out]; rfl, rfl⟩
            · rw [if_neg (by omega)] at hr2
              have HX := Lib.hid hr2
              clear hr2 ht
              go_wp2
              go_ret
              exact ⟨by rw [← HX.out]; rfl, rfl⟩
end Go.Proofs.Ytdoidajdfnbiiaa

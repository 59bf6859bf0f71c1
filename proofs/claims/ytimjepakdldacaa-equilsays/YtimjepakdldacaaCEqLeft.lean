/-
  equil.Left answers what the document says, whatever is handed in that a machine can hold; nothing that was there is written.
-/
import Derived.Test.YtimjepakdldacaaCEqUnd
import Derived.Test.YtimjepakdldacaaCEqUp
import Derived.Test.YtimjepakdldacaaCEqCheck
import Derived.Deep.RegionHeld3
namespace Fm
set_option linter.unusedVariables false
section
variable {A T : List (List Int)} {r k : Nat} {R C : Nat → Bool}
/-- One round: the first one's lines first. -/
theorem reach_roundA (h : Reach A T r k R C) : Reach A T r k (restB A r k R C) (restB T k r C (restB A r k R C)) :=
  .cols (.rows h (fun x _ hx => restB_sub hx) (fun x _ h1 h2 => restB_gone h1 h2)) (fun x _ hx => restB_sub hx) (fun x _ h1 h2 => restB_gone h1 h2)
theorem end_roundA (h : Reach A T r k R C) (hC : (keptL k (restB T k r C (restB A r k R C))).length = (keptL k C).length) : EndS A T r k (restB A r k R C) (restB T k r C (restB A r k R C)) where
  reach := reach_roundA h
  closed := ⟨fun x z hx hz h1 h2 hd => by
    have q := (keptL_sub_eq (fun y hy => restB_sub hy) hC).2
    exact restB_stay h1 ⟨z, hz, restB_sub h2, domL_less hd q⟩, fun x z hx hz h1 h2 hd => restB_stay h1 ⟨z, hz, restB_sub h2, hd⟩⟩
theorem keptL_allA (n : Nat) : keptL n (fun _ => true) = sides n := by
  unfold keptL
  rw [List.filter_eq_self]
  intro a _; rfl
end
end Fm
namespace Go.Proofs.Ytimjepakdldacaa
open Go.RowKit Fm
set_option linter.unusedVariables false

/-- What is left when lines are taken away, in rows of the call's own. -/
def LeftOwn (A B : List (List Int)) (r k : Nat) (w : World) (e : Ending) (w' : World) : Prop :=
  ∃ R C, EndS A (colsM k B) r k R C ∧ ∃ v u, e = .returned (.tuple #[v, u, .int .i64 0]) ∧ w'.ownsRow w.heap.size 3 1 v (keptL r R).length (I (keptL r R)) ∧ w'.ownsRow w.heap.size 3 1 u (keptL k C).length (I (keptL k C)) ∧ Below w.heap.size w w'
def lenV : Value → Nat
  | .slice _ n _ => n
  | _ => 0

theorem box2V (w : World) (x y : Value) (t : Nat) : ((w.alloc (.cells #[x] t)).alloc (.cells #[y] t)).cell? ⟨w.heap.size, 0, none⟩ = some x ∧ ((w.alloc (.cells #[x] t)).alloc (.cells #[y] t)).cell? ⟨w.heap.size + 1, 0, none⟩ = some y ∧ Below w.heap.size w ((w.alloc (.cells #[x] t)).alloc (.cells #[y] t)) ∧ ((w.alloc (.cells #[x] t)).alloc (.cells #[y] t)).heap.size = w.heap.size + 2 := by
  refine ⟨by rw [World.cell?_alloc_lt _ _ _ (by simp), World.cell?_alloc_new]; rfl, ?_, ((Below.refl _ w).alloc (Nat.le_refl _) _).alloc (by simp) _, by simp⟩
  have : w.heap.size + 1 = (w.alloc (.cells #[x] t)).heap.size := by simp
  rw [this, World.cell?_alloc_new]; rfl

theorem eLeftE : ELeftE := by
  intro a m c A b n d B w ta tb ht
  obtain ⟨c2, c3, hb, hs⟩ := box2V w (.slice a m c) (.slice b n d) 22
  have HC := Lib.hid (eqCheck_any a m c A b n d B _ (ta.below hb) (tb.below hb))
  have HB := Lib.hid hb
  have hne : (echk A B != 0) = true := by simpa using ht
  clear ht ta tb hb
  generalize echk A B = r at *
  go_enter Try.func10, Try.ntmps10
  go_wp2_with fail
  refine HC.out.mono ?_
  rintro e w1 ⟨rfl, hb1⟩
  have hbw := ext_trans HB.out hb1
  clear HC
  go_wp2
  go_ret3
  exact ⟨none, 0, none, 0, rfl, hbw⟩

set_option maxHeartbeats 4000000 in
set_option maxRecDepth 100000 in
theorem left_own (r k : Nat) (a : Option Addr) (m c : Nat) (A : List (List Int)) (b : Option Addr) (n d : Nat) (B : List (List Int)) (w : World) (ta : TabIn w a m A) (tb : TabIn w b n B) (g : Gam r k A B) :
    Calls Try.prog 10 #[.slice a m c, .slice b n d] w (LeftOwn A B r k w) := by
  obtain ⟨c2, c3, hb, hs⟩ := box2V w (.slice a m c) (.slice b n d) 22
  have HC := Lib.hid (eqCheck_any a m c A b n d B _ (ta.below hb) (tb.below hb))
  rw [g.chk] at HC
  obtain ⟨Ba, hBa, ra0, _, _⟩ := ta
  obtain ⟨Bb, hBb, rb0, _, _⟩ := tb
  have ra := ra0.more hBa
  have rb := rb0.more hBb
  have hm : m = r := by rw [← ra.1, g.a.len]
  have hn : n = r := by rw [← rb.1, g.b.len]
  subst hm
  subst hn
  have r1 := g.a.r1
  have r6 := g.a.r6
  have k1 := g.a.k1
  have k6 := g.a.k6
  obtain ⟨ba, oa, a0, c0, rfl, hba, hc0, hl0, _, _, _⟩ := ra.at_ (show 0 < n by omega)
  rw [g.a.row g.a.r1] at hc0 hl0
  rw [Nat.add_zero] at hc0
  have hn0 : (0 : Int) < (n : Int) := by omega
  have hn1 : 0 < n := r1
  have Q1 : Hid (∀ W, Calls Try.prog 28 #[.int .i64 n] W fun e w' => ∃ v, e = .returned v ∧ w'.ownsRow W.heap.size 3 1 v n (I (sides n)) ∧ Below W.heap.size W w') := fun W => upTo_own n r6 W
  have Q2 : Hid (∀ W, Calls Try.prog 28 #[.int .i64 k] W fun e w' => ∃ v, e = .returned v ∧ w'.ownsRow W.heap.size 3 1 v k (I (sides k)) ∧ Below W.heap.size W w') := fun W => upTo_own k k6 W
  have HG := Lib.hid g
  have HT := Lib.hid (cols_pay g.b)
  have HRA := Lib.hid ra
  have HRB := Lib.hid rb
  have HB := Lib.hid hb
  have HS := Lib.hid hs
  have HA2 := Lib.hid c2
  have HA3 := Lib.hid c3
  clear ra rb ra0 rb0 hb hs
  go_enter Try.func10, Try.ntmps10
  go_wp2_with fail
  refine HC.out.mono ?_
  rintro e w1 ⟨rfl, hb1⟩
  have D2 := (hb1.cell (p := ⟨w.heap.size, 0, none⟩) (by show w.heap.size < _; rw [HS.out]; omega)).trans HA2.out
  have D3 := (hb1.cell (p := ⟨w.heap.size + 1, 0, none⟩) (by show w.heap.size + 1 < _; rw [HS.out]; omega)).trans HA3.out
  have HB1 := Lib.hid (ext_trans HB.out hb1)
  have HZ1 : Hid (w.heap.size + 2 ≤ w1.heap.size) := by have h := hb1.size; rw [HS.out] at h; exact h
  have D0 := (HB1.out.cell (p := ⟨ba, oa, none⟩) (by exact hba)).trans hc0
  clear HC HS HA2 HA3 c2 c3 hb1 HB hc0
  have HD3 := Lib.hid D3
  have HS0 : Hid (w1.drew.cell? ⟨w.heap.size, 0, none⟩ = some (.slice (some ⟨ba, oa, none⟩) n c) ∧ w1.drew.cell? ⟨ba, oa, none⟩ = some (.slice a0 k c0) ∧ Hid (Below w1.heap.size w1 w1.drew)) := ⟨D2, D0, Lib.hid (below_drewN (Below.refl _ w1) 1)⟩
  have KE : Hid (∀ W W', Below W.heap.size W W' → w1.heap.size ≤ W.heap.size → (W.cell? ⟨w.heap.size, 0, none⟩ = some (.slice (some ⟨ba, oa, none⟩) n c) ∧ W.cell? ⟨ba, oa, none⟩ = some (.slice a0 k c0) ∧ Hid (Below w1.heap.size w1 W)) → W'.cell? ⟨w.heap.size, 0, none⟩ = some (.slice (some ⟨ba, oa, none⟩) n c) ∧ W'.cell? ⟨ba, oa, none⟩ = some (.slice a0 k c0) ∧ Hid (Below w1.heap.size w1 W')) := fun W W' hb hz h =>
    ⟨(hb.cell (by show w.heap.size < _; have := HZ1.out; omega)).trans h.1, (hb.cell (by show ba < _; have := HZ1.out; omega)).trans h.2.1, Lib.hid (ext_trans h.2.2.out hb)⟩
  have HSZ : Hid (∀ W, (W.cell? ⟨w.heap.size, 0, none⟩ = some (.slice (some ⟨ba, oa, none⟩) n c) ∧ W.cell? ⟨ba, oa, none⟩ = some (.slice a0 k c0) ∧ Hid (Below w1.heap.size w1 W)) → w1.heap.size ≤ W.heap.size) := fun W h => h.2.2.out.size
  clear D3
  go_wp2_with fail
  go_region_held3 (fun w' => w'.cell? ⟨w.heap.size, 0, none⟩ = some (.slice (some ⟨ba, oa, none⟩) n c) ∧ w'.cell? ⟨ba, oa, none⟩ = some (.slice a0 k c0) ∧ Hid (Below w1.heap.size w1 w')) (first | exact HS0.out | assumption | exact KE.out _ _ (by assumption) (HSZ.out _ (by assumption)) (by assumption))
    (first
      | (go_at_call 28; with_reducible refine (Q1.out _).mono ?_; rintro e w2 ⟨v1, rfl, own1, hb1⟩)
      | (go_at_call 28; with_reducible refine (Q2.out _).mono ?_; rintro e w3 ⟨v2, rfl, own2, hb2⟩))
  have hB3 := (And.right (And.right (by assumption : _ ∧ _ ∧ Hid (Below w1.heap.size w1 w3)))).out
  have cA3 := (And.left (by assumption : _ ∧ _ ∧ Hid (Below w1.heap.size w1 w3)))
  have cB3 := (hB3.cell (p := ⟨w.heap.size + 1, 0, none⟩) (by show w.heap.size + 1 < _; have := HZ1.out; omega)).trans HD3.out
  have O1 := Lib.hid (own_mono (own_below own1 hb2 (Nat.le_refl _)) (show w.heap.size ≤ w1.drew.heap.size by have := HZ1.out; show _ ≤ w1.heap.size; omega))
  have hz2 : w.heap.size ≤ w2.heap.size := by have h := hb1.size; have := HZ1.out; have e : w1.drew.heap.size = w1.heap.size := rfl; omega
  have O2 := Lib.hid (own_mono own2 hz2)
  have HB3 := Lib.hid (ext_trans HB1.out hB3)
  have HZ3 : Hid (w.heap.size + 2 ≤ w3.heap.size) := by have h := hB3.size; have := HZ1.out; show _ ≤ _; omega
  obtain ⟨a1, c1, rfl, _, _⟩ := own_slice own1
  obtain ⟨a2, c2, rfl, _, _⟩ := own_slice own2
  have HCA := Lib.hid cA3
  have HCB := Lib.hid cB3
  clear own1 own2 hb1 hb2 KE HSZ HS0 Q1 Q2 hB3 hz2 cA3 cB3 D0 D2 HD3 HB1 HZ1
  have e1 : (keptL n fun _ => true).length = n := by rw [keptL_allA, sides_len]
  have e2 : (keptL k fun _ => true).length = k := by rw [keptL_allA, sides_len]
  have HE1 := Lib.hid e1
  have HE2 := Lib.hid e2
  clear e1 e2
  obtain ⟨T, hT⟩ : ∃ T, colsM k B = T := ⟨_, rfl⟩
  have HTQ := Lib.hid hT
  rw [hT] at HT
  clear hT
  go_wp2_with fail
  go_loopw [8, 9] (fun rv cv wr => ∃ R C a1 c1 a2 c2, rv = .slice a1 (keptL n R).length c1 ∧ cv = .slice a2 (keptL k C).length c2 ∧ Hid (wr.ownsRow w.heap.size 3 1 rv (keptL n R).length (I (keptL n R))) ∧ Hid (wr.ownsRow w.heap.size 3 1 cv (keptL k C).length (I (keptL k C))) ∧ Fm.Reach A T n k R C ∧ Below w3.heap.size w3 wr) (fun rv cv _ => lenV rv + lenV cv)
  case atStart => exact ⟨fun _ => true, fun _ => true, a1, c1, a2, c2, by rw [HE1.out], by rw [HE2.out], (show Hid _ from by rw [HE1.out, keptL_allA]; exact O1.out), (show Hid _ from by rw [HE2.out, keptL_allA]; exact O2.out), .start, Below.refl _ _⟩
  case round =>
    obtain ⟨R, C, a3, c3, a4, c4, rfl, rfl, r3, r4, hre, hbel⟩ := hrel
    clear O1 O2 HE1 HE2
    have HBW := Lib.hid (ext_trans HB3.out hbel)
    have hz3 : w.heap.size + 2 ≤ wr.heap.size := by have h := hbel.size; have := HZ3.out; omega
    have HRE := Lib.hid hre
    have ka := (hbel.cell (p := ⟨w.heap.size, 0, none⟩) (by show w.heap.size < _; have := HZ3.out; omega)).trans HCA.out
    have kb := (hbel.cell (p := ⟨w.heap.size + 1, 0, none⟩) (by show w.heap.size + 1 < _; have := HZ3.out; omega)).trans HCB.out
    have HKA := Lib.hid ka
    have HKB := Lib.hid kb
    clear ka kb
    have QU1 := Lib.hid (und_any (kf := 30) (g := w.heap.size) (r := n) (k := k) (M := A) (R := R) (C := C) r6 k6 a3 a4 c3 c4 wr (Rd.of_own r3.out) (Rd.of_own r4.out) (fun W g3 hW h3 hc3 =>
      innerTells1 (left1_tells HG.out.a (some ⟨ba, oa, none⟩) n c w.heap.size W (rdr_ext HRA.out (ext_trans HBW.out hW)) (by have := hW.size; omega) ((hW.cell (by show w.heap.size < _; omega)).trans HKA.out)) h3 hc3))
    have QU2 : Hid (∀ W v1 a5 c5, Below wr.heap.size wr W → v1 = .slice a5 (keptL n (restB A n k R C)).length c5 → W.ownsRow wr.heap.size 3 1 v1 (keptL n (restB A n k R C)).length (I (keptL n (restB A n k R C))) →
        Calls Try.prog 29 #[.slice a4 (keptL k C).length c4, .slice a5 (keptL n (restB A n k R C)).length c5, .func (.func 31) #[] #[.pointer (some ⟨w.heap.size + 1, 0, none⟩)]] W
          fun e w' => ∃ v, e = .returned v ∧ w'.ownsRow W.heap.size 3 1 v (keptL k (restB T k n C (restB A n k R C))).length (I (keptL k (restB T k n C (restB A n k R C)))) ∧ Below W.heap.size W w') := fun W v1 a5 c5 hW hv ho =>
      und_any (kf := 31) (g := w.heap.size + 1) (r := k) (k := n) (M := T) (R := C) (C := restB A n k R C) k6 r6 a4 a5 c4 c5 W (Rd.of_own (own_below r4.out hW (Nat.le_refl _))) (by subst hv; exact Rd.of_own ho) (fun W' g3 hW' h3 hc3 => by
        have hWW := ext_trans hW hW'
        have t := left2_tells HG.out.b b n d (w.heap.size + 1) W' (rdr_ext HRB.out (ext_trans HBW.out hWW)) (by have := hWW.size; omega) ((hWW.cell (by show w.heap.size + 1 < _; omega)).trans HKB.out)
        rw [HTQ.out] at t
        exact innerTells2 t h3 hc3)
    have sR : (keptL n (restB A n k R C)).length ≤ (keptL n R).length := keptL_sub_len (fun x h => restB_sub h)
    have sC : (keptL k (restB T k n C (restB A n k R C))).length ≤ (keptL k C).length := keptL_sub_len (fun x h => restB_sub h)
    have HEN : Hid ((keptL k (restB T k n C (restB A n k R C))).length = (keptL k C).length → EndS A T n k (restB A n k R C) (restB T k n C (restB A n k R C))) := fun h => end_roundA HRE.out h
    have HRR : Hid (Fm.Reach A T n k (restB A n k R C) (restB T k n C (restB A n k R C))) := reach_roundA HRE.out
    clear r3 r4 hre HKA HKB
    generalize restB T k n C (restB A n k R C) = C' at *
    generalize restB A n k R C = R' at *
    have z3 : (keptL k C).length ≤ 6 := Nat.le_trans (keptL_le k C) k6
    have z4 : (keptL n R).length ≤ 6 := Nat.le_trans (keptL_le n R) r6
    go_wp2_with fail
    refine QU1.out.mono ?_
    rintro e w6 ⟨v5, rfl, own5, hb6⟩
    obtain ⟨a5, c5, rfl, _, _⟩ := own_slice own5
    have QU3 := Lib.hid (QU2.out w6 _ a5 c5 hb6 rfl own5)
    have O5 := Lib.hid own5
    clear QU1 QU2 own5
    go_wp2_with fail
    refine QU3.out.mono ?_
    rintro e w7 ⟨v6, rfl, own6, hb7⟩
    obtain ⟨a6, c6, rfl, _, _⟩ := own_slice own6
    have P5 := Lib.hid (own_mono (own_below O5.out hb7 (Nat.le_refl _)) (show w.heap.size ≤ wr.heap.size by omega))
    have P6 := Lib.hid (own_mono own6 (show w.heap.size ≤ w6.heap.size by have := hb6.size; omega))
    have hb37 := ext_trans hbel (ext_trans hb6 hb7)
    have hbw := ext_trans HB3.out hb37
    clear QU3 O5 own6 hb6 hb7 hbel HRE
    by_cases q : (keptL n R').length + (keptL k C').length = (keptL n R).length + (keptL k C).length
    · have f1 : ((((keptL n R').length : Int) + ((keptL k C').length : Int)) == (((keptL n R).length : Int) + ((keptL k C).length : Int))) = true := by simp; omega
      have HE := Lib.hid (HEN.out (by omega))
      clear HEN HRR
      obtain ⟨p1, hp1⟩ : ∃ p1, (keptL k C').length = p1 := ⟨_, rfl⟩
      obtain ⟨p2, hp2⟩ : ∃ p2, (keptL n R').length = p2 := ⟨_, rfl⟩
      have HP1 := Lib.hid hp1
      have HP2 := Lib.hid hp2
      rw [hp1, hp2] at f1 q
      rw [hp1] at sC
      rw [hp2] at sR
      rw [hp1] at P6 ⊢
      rw [hp2] at P5 ⊢
      clear hp1 hp2
      generalize (keptL k C).length = p3 at *
      generalize (keptL n R).length = p4 at *
      go_wp2
      go_ret3
      exact ⟨R', C', by rw [HTQ.out]; exact HE.out, _, _, rfl, by rw [HP2.out]; exact P5.out, by rw [HP1.out]; exact P6.out, hbw⟩
    · have f1 : ((((keptL n R').length : Int) + ((keptL k C').length : Int)) == (((keptL n R).length : Int) + ((keptL k C).length : Int))) = false := beq_eq_false_iff_ne.2 (by omega)
      clear HEN
      go_wp2
      go_roundw
      case rel => exact ⟨R', C', a5, c5, a6, c6, rfl, rfl, P5, P6, HRR.out, hb37⟩
      case measure => simp only [lenV]; omega

theorem eLeft : ELeft := by
  intro r k a m c A b n d B w ta tb g
  refine (left_own r k a m c A b n d B w ta tb g).mono ?_
  rintro e w' ⟨R, C, h, v, u, rfl, o1, o2, hb⟩
  obtain ⟨a1, c1, rfl, h1, _⟩ := own_slice o1
  obtain ⟨a2, c2, rfl, h2, _⟩ := own_slice o2
  exact ⟨R, C, h, a1, c1, a2, c2, rfl, h1, h2, Rd.of_own o1, Rd.of_own o2, hb⟩
end Go.Proofs.Ytimjepakdldacaa

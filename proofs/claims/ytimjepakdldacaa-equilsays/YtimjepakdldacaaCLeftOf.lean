/-
  plumeref.LeftOf at a right game: what is left where lines are taken away as long as there is one to take; nothing that was there is written.
-/
import Derived.Test.YtimjepakdldacaaCKept
import Derived.Test.YtimjepakdldacaaCSides
import Derived.Test.YtimjepakdldacaaCColumns
import Derived.Test.YtimjepakdldacaaEquilP
import Derived.Deep.RegionHeld3
namespace Fm
set_option linter.unusedVariables false
section
variable {A T : List (List Int)} {r k : Nat} {R C : Nat → Bool}
/-- One round: the second one's lines first. -/
theorem reach_round (h : Reach A T r k R C) : Reach A T r k (restB A r k R (restB T k r C R)) (restB T k r C R) :=
  .rows (.cols h (fun x _ hx => restB_sub hx) (fun x _ h1 h2 => restB_gone h1 h2)) (fun x _ hx => restB_sub hx) (fun x _ h1 h2 => restB_gone h1 h2)
theorem end_round (h : Reach A T r k R C) (hR : (keptL r (restB A r k R (restB T k r C R))).length = (keptL r R).length) : EndS A T r k (restB A r k R (restB T k r C R)) (restB T k r C R) where
  reach := reach_round h
  closed := ⟨fun x z hx hz h1 h2 hd => restB_stay h1 ⟨z, hz, restB_sub h2, hd⟩, fun x z hx hz h1 h2 hd => by
    have q := (keptL_sub_eq (fun y hy => restB_sub hy) hR).2
    exact restB_stay h1 ⟨z, hz, restB_sub h2, domL_less hd q⟩⟩
theorem keptL_all (n : Nat) : keptL n (fun _ => true) = sides n := by
  unfold keptL
  rw [List.filter_eq_self]
  intro a _; rfl
theorem keptL_bd {n : Nat} {R : Nat → Bool} : ∀ x ∈ keptL n R, 0 ≤ x ∧ x < n := fun x hx => by
  obtain ⟨y, rfl, h, _⟩ := mem_keptL.1 hx
  omega
end
end Fm
namespace Go.Proofs.Ytimjepakdldacaa
open Go.RowKit Fm
set_option linter.unusedVariables false

def sliceLen : Value → Nat
  | .slice _ n _ => n
  | _ => 0
theorem kept_rd {r k : Nat} {M : List (List Int)} (p : Pay r k M) {R C : Nat → Bool} (a al aq : Option Addr) (n c cl cq : Nat) (w : World) (hr : RdR w w.heap.size a n M) (hl : Rd w w.heap.size al (keptL r R).length (keptL r R)) (hq : Rd w w.heap.size aq (keptL k C).length (keptL k C)) :
    Calls Try.prog 36 #[.slice a n c, .slice al (keptL r R).length cl, .slice aq (keptL k C).length cq] w fun e w' => ∃ a' c', e = .returned (.slice a' (keptL r (restB M r k R C)).length c') ∧ (keptL r (restB M r k R C)).length ≤ c' ∧ Rd w' w'.heap.size a' (keptL r (restB M r k R C)).length (keptL r (restB M r k R C)) ∧ Below w.heap.size w w' := by
  have h1 := keptL_le r R
  have h2 := keptL_le k C
  have := p.r6
  have := p.k6
  refine (kept_own p a al aq n c _ cl _ cq _ _ w hr hl hq keptL_bd keptL_bd (by omega) (by omega)).mono ?_
  rintro e w' ⟨v, rfl, ho, hb⟩
  rw [restL_kept] at ho
  obtain ⟨a', c', rfl, h3, _⟩ := own_slice ho
  exact ⟨a', c', rfl, h3, Rd.of_own ho, hb⟩

set_option maxHeartbeats 4000000 in
set_option maxRecDepth 100000 in
theorem leftOf_any {r k : Nat} {A B : List (List Int)} (g : Gam r k A B) (a : Option Addr) (n c : Nat) (b : Option Addr) (m d : Nat) (w : World) (ha : RdR w w.heap.size a n A) (hb : RdR w w.heap.size b m B) :
    Calls Try.prog 13 #[.slice a n c, .slice b m d] w fun e w' => ∃ R C, EndS A (colsM k B) r k R C ∧ ∃ a c b d, e = .returned (.tuple #[.slice a (keptL r R).length c, .slice b (keptL k C).length d]) ∧
      Rd w' w'.heap.size a (keptL r R).length (keptL r R) ∧ Rd w' w'.heap.size b (keptL k C).length (keptL k C) ∧ Below w.heap.size w w' := by
  have hn : n = r := by rw [← ha.1, g.a.len]
  have hm : m = r := by rw [← hb.1, g.b.len]
  subst hn
  subst hm
  have HA := Lib.hid ha
  have r1 := g.a.r1
  have r6 := g.a.r6
  have k1 := g.a.k1
  have k6 := g.a.k6
  obtain ⟨ba, oa, a0, c0, rfl, hba, hc0, hl0, _, _, _⟩ := ha.at_ (show 0 < m by omega)
  rw [g.a.row g.a.r1] at hc0 hl0
  rw [Nat.add_zero] at hc0
  have hm0 : (0 : Int) < (m : Int) := by omega
  have Q1 : Hid (∀ W, Calls Try.prog 34 #[.int .i64 m] W fun e w' => ∃ v, e = .returned v ∧ w'.ownsRow W.heap.size 3 1 v m (I (sides m)) ∧ Below W.heap.size W w') := fun W => sides_any m W (by omega)
  have Q2 : Hid (∀ W, Calls Try.prog 34 #[.int .i64 k] W fun e w' => ∃ v, e = .returned v ∧ w'.ownsRow W.heap.size 3 1 v k (I (sides k)) ∧ Below W.heap.size W w') := fun W => sides_any k W (by omega)
  have QC : Hid (∀ W, Below w.heap.size w W → Calls Try.prog 35 #[.slice b m d] W (ColsOut k B W)) := fun W hW => columns_any g.b b m d W (rdr_ext hb hW)
  have HT := Lib.hid (cols_pay g.b)
  have HG := Lib.hid g
  have hm1 : 0 < m := r1
  have HS0 : Hid (w.drew.cell? ⟨ba, oa, none⟩ = some (.slice a0 k c0) ∧ Hid (Below w.heap.size w w.drew)) := ⟨hc0, Lib.hid (below_drewN (Below.refl _ w) 1)⟩
  have KE : Hid (∀ W W', Below W.heap.size W W' → w.heap.size ≤ W.heap.size → W.cell? ⟨ba, oa, none⟩ = some (.slice a0 k c0) ∧ Hid (Below w.heap.size w W) → W'.cell? ⟨ba, oa, none⟩ = some (.slice a0 k c0) ∧ Hid (Below w.heap.size w W')) := fun W W' hb hz h => ⟨(hb.cell (by show ba < _; omega)).trans h.1, Lib.hid (h.2.out.trans (hb.mono hz))⟩
  have HSZ : Hid (∀ W, (W.cell? ⟨ba, oa, none⟩ = some (.slice a0 k c0) ∧ Hid (Below w.heap.size w W)) → w.heap.size ≤ W.heap.size) := fun W h => h.2.out.size
  clear ha hb g hc0
  go_enter Try.func13, Try.ntmps13
  go_wp2_with fail
  go_region_held3 (fun w' => w'.cell? ⟨ba, oa, none⟩ = some (.slice a0 k c0) ∧ Hid (Below w.heap.size w w')) (first | exact HS0.out | assumption | exact KE.out _ _ (by assumption) (HSZ.out _ (by assumption)) (by assumption))
    (first
      | (go_at_call 34; with_reducible refine (Q1.out _).mono ?_; rintro e w1 ⟨v1, rfl, own1, hb1⟩)
      | (go_at_call 34; with_reducible refine (Q2.out _).mono ?_; rintro e w2 ⟨v2, rfl, own2, hb2⟩))
  have hB2 := (And.right (by assumption : _ ∧ Hid (Below w.heap.size w w2))).out
  obtain ⟨a1, c1, rfl, _, _⟩ := own_slice own1
  obtain ⟨a2, c2, rfl, _, _⟩ := own_slice own2
  have R1 := Lib.hid (rd_ext (Rd.of_own own1) hb2)
  have R2 := Lib.hid (Rd.of_own own2)
  have QC2 := Lib.hid (QC.out w2 hB2)
  clear own1 own2 hb1 hb2 KE HSZ HS0 Q1 Q2 QC
  go_wp2_with fail
  refine QC2.out.mono ?_
  rintro e w5 ⟨v5, rfl, m5, hb5⟩
  have hcl := colsM_len k B
  obtain ⟨g5, c5, rfl, _, hg5, _, _⟩ := m5.form (by rw [hcl]; omega)
  rw [hcl] at m5 ⊢
  have RC := Lib.hid (m5.rd hcl)
  have HB5 := Lib.hid (ext_trans hB2 hb5)
  have R15 := Lib.hid (rd_ext R1.out hb5)
  have R25 := Lib.hid (rd_ext R2.out hb5)
  have HA5 := Lib.hid (rdr_ext HA.out HB5.out)
  clear QC2 m5 hB2 hb5 R1 R2 HA hcl
  obtain ⟨T, hT⟩ : ∃ T, colsM k B = T := ⟨_, rfl⟩
  rw [hT] at HT RC
  have HTQ := Lib.hid hT
  clear hT
  have e1 : (keptL m fun _ => true).length = m := by rw [keptL_all, sides_len]
  have e2 : (keptL k fun _ => true).length = k := by rw [keptL_all, sides_len]
  have HE1 := Lib.hid e1
  have HE2 := Lib.hid e2
  clear e1 e2
  go_wp2_with fail
  go_loopw [6, 7] (fun rv cv wr => ∃ R C a1 c1 a2 c2, rv = .slice a1 (keptL m R).length c1 ∧ cv = .slice a2 (keptL k C).length c2 ∧ Rd wr wr.heap.size a1 (keptL m R).length (keptL m R) ∧ Rd wr wr.heap.size a2 (keptL k C).length (keptL k C) ∧ Fm.Reach A T m k R C ∧ Below w5.heap.size w5 wr) (fun rv cv _ => sliceLen rv + sliceLen cv)
  case atStart => exact ⟨fun _ => true, fun _ => true, a1, c1, a2, c2, by rw [HE1.out], by rw [HE2.out], by rw [HE1.out, keptL_all]; exact R15.out, by rw [HE2.out, keptL_all]; exact R25.out, .start, Below.refl _ _⟩
  case round =>
    obtain ⟨R, C, a3, c3, a4, c4, rfl, rfl, r3, r4, hre, hbel⟩ := hrel
    clear R15 R25 HE1 HE2
    have RA := Lib.hid (rdr_ext HA5.out hbel)
    have R3 := Lib.hid r3
    have QK1 := Lib.hid (kept_rd HT.out (R := C) (C := R) _ a4 a3 k c5 c4 c3 wr (rdr_ext RC.out hbel) r4 r3)
    have HRE := Lib.hid hre
    have sC : (keptL k (restB T k m C R)).length ≤ (keptL k C).length := keptL_sub_len (fun x h => restB_sub h)
    have sR : (keptL m (restB A m k R (restB T k m C R))).length ≤ (keptL m R).length := keptL_sub_len (fun x h => restB_sub h)
    have QK2 : Hid (∀ W a5 c5, Below wr.heap.size wr W → Rd W W.heap.size a5 (keptL k (restB T k m C R)).length (keptL k (restB T k m C R)) → Calls Try.prog 36 #[.slice (some ⟨ba, oa, none⟩) m c, .slice a3 (keptL m R).length c3, .slice a5 (keptL k (restB T k m C R)).length c5] W fun e w' => ∃ a' c', e = .returned (.slice a' (keptL m (restB A m k R (restB T k m C R))).length c') ∧ (keptL m (restB A m k R (restB T k m C R))).length ≤ c' ∧ Rd w' w'.heap.size a' (keptL m (restB A m k R (restB T k m C R))).length (keptL m (restB A m k R (restB T k m C R))) ∧ Below W.heap.size W w') := fun W a5 c5 hW h5 =>
      kept_rd HG.out.a (R := R) (C := restB T k m C R) _ a3 a5 m c c3 c5 W (rdr_ext RA.out hW) (rd_ext R3.out hW) h5
    have HEN : Hid ((keptL m (restB A m k R (restB T k m C R))).length = (keptL m R).length → EndS A T m k (restB A m k R (restB T k m C R)) (restB T k m C R)) := fun h => end_round HRE.out h
    have HRR : Hid (Fm.Reach A T m k (restB A m k R (restB T k m C R)) (restB T k m C R)) := reach_round HRE.out
    clear r3 r4 hre
    generalize restB A m k R (restB T k m C R) = R' at *
    generalize restB T k m C R = C' at *
    go_wp2_with fail
    refine QK1.out.mono ?_
    rintro e w6 ⟨a5, c6, rfl, hc6, r5, hb6⟩
    have QK3 := Lib.hid (QK2.out w6 a5 c6 hb6 r5)
    have R5 := Lib.hid r5
    clear QK1 QK2 r5
    go_wp2_with fail
    refine QK3.out.mono ?_
    rintro e w7 ⟨a6, c7, rfl, hc7, r6', hb7⟩
    have R57 := Lib.hid (rd_ext R5.out hb7)
    have R67 := Lib.hid r6'
    have hb57 := ext_trans hbel (ext_trans hb6 hb7)
    have hbw := ext_trans HB5.out hb57
    have z1 : (keptL k C').length ≤ 6 := Nat.le_trans (keptL_le k C') k6
    have z2 : (keptL m R').length ≤ 6 := Nat.le_trans (keptL_le m R') r6
    have z3 : (keptL k C).length ≤ 6 := Nat.le_trans (keptL_le k C) k6
    have z4 : (keptL m R).length ≤ 6 := Nat.le_trans (keptL_le m R) r6
    clear QK3 R5 r6' hb6 hb7 R3 RA hbel HRE
    by_cases q1 : (keptL k C').length = (keptL k C).length
    · have f1 : (((keptL k C').length : Int) == ((keptL k C).length : Int)) = true := by rw [q1]; simp
      by_cases q2 : (keptL m R').length = (keptL m R).length
      · have f2 : (((keptL m R').length : Int) == ((keptL m R).length : Int)) = true := by rw [q2]; simp
        have HE := Lib.hid (HEN.out q2)
        clear q1 q2 HEN sC sR
        obtain ⟨p1, hp1⟩ : ∃ p1, (keptL k C').length = p1 := ⟨_, rfl⟩
        obtain ⟨p2, hp2⟩ : ∃ p2, (keptL m R').length = p2 := ⟨_, rfl⟩
        have HP1 := Lib.hid hp1
        have HP2 := Lib.hid hp2
        rw [hp1] at f1 z1 hc6 ⊢
        rw [hp2] at f2 z2 hc7 ⊢
        clear hp1 hp2
        generalize (keptL k C).length = p3 at *
        generalize (keptL m R).length = p4 at *
        go_wp2
        go_ret2
        exact ⟨R', C', by rw [HTQ.out]; exact HE.out, a6, c7, a5, c6, by rw [HP1.out, HP2.out]; rfl, R67.out, R57.out, hbw⟩
      · have f2 : (((keptL m R').length : Int) == ((keptL m R).length : Int)) = false := beq_eq_false_iff_ne.2 (by omega)
        clear q1 HEN
        go_wp2
        go_roundw
        case rel => exact ⟨R', C', a6, c7, a5, c6, rfl, rfl, R67.out, R57.out, HRR.out, hb57⟩
        case measure => simp only [sliceLen]; omega
    · have f1 : (((keptL k C').length : Int) == ((keptL k C).length : Int)) = false := beq_eq_false_iff_ne.2 (by omega)
      clear HEN
      go_wp2
      go_roundw
      case rel => exact ⟨R', C', a6, c7, a5, c6, rfl, rfl, R67.out, R57.out, HRR.out, hb57⟩
      case measure => simp only [sliceLen]; omega
end Go.Proofs.Ytimjepakdldacaa

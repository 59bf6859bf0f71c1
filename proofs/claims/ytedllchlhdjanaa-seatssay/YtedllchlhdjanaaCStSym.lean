/-
  slices.symMergeCmpFunc on a row of parts: two sorted parts become one.
-/
import Derived.Test.YtedllchlhdjanaaCStSymA
import Derived.Test.YtedllchlhdjanaaCStRot
import Derived.Deep.DeepCutAuto
namespace Go.Proofs.Ytedllchlhdjanaa
open Go.Shelf Go.RowKit Go.Lib Go.Sort Fm
set_option linter.unusedVariables false

set_option maxHeartbeats 8000000 in
set_option maxRecDepth 100000 in
theorem stSymG_any {P : Program} {k : Nat} (Y : Ly P k) {enc : Nat → List Value} {w0 : World} {blk n g : Nat} {cf : Nat → Nat → Int} {lt : Nat → Nat → Prop} (R : Row0 enc k w0 blk n) (C : Cmp0 P enc k w0 blk n g cf) (O : CmpLt cf lt) (hn : n ≤ 100000) (cap : Nat) {d : Nat → Nat} {w : World} (S : SW enc k w0 blk n d w) {a m b : Nat} (ham : a + 1 < m) (hmb : m + 1 < b) (hb : b ≤ n)
    (h1 : Srt lt a m d) (h2 : Srt lt m b d) (hc : Crs a m b d)
    (IH : ∀ (a' m' b' : Nat) (d' : Nat → Nat) (w' : World), a' < m' → m' < b' → b' ≤ n → b' - a' < b - a → SW enc k w0 blk n d' w' → Srt lt a' m' d' → Srt lt m' b' d' → Crs a' m' b' d' →
      Calls P 36 #[.slice (some ⟨blk, 0, none⟩) n cap, .int .i64 a', .int .i64 m', .int .i64 b', .func (.func g) #[] #[]] w' (SymOut lt enc k w0 blk n a' b' d')) :
    Calls P 36 #[.slice (some ⟨blk, 0, none⟩) n cap, .int .i64 a, .int .i64 m, .int .i64 b, .func (.func g) #[] #[]] w (SymOut lt enc k w0 blk n a b d) := by
  have mixed := Y.mixed; have tI := Y.tI; have aI := Y.aI; have zI := Y.zI; have tU := Y.tU; have aU := Y.aU; have zU := Y.zU; have tB := Y.tB; have aB := Y.aB; have zB := Y.zB; have tS := Y.tS; have aS := Y.aS; have zS := Y.zS; have aE := Y.aE; have zE := Y.zE
  have uS := run_underlying Y.tS
  have eg := C.enter
  have e36 : ∀ args w, (callFunc 36 args).run P w = .ok (.enter 36 args) w := enters_of Y.f36 (by kernel_rfl) rfl
  have e37 : ∀ args w, (callFunc 37 args).run P w = .ok (.enter 37 args) w := enters_of Y.f37 (by kernel_rfl) rfl
  have S0 : Hid (SW enc k w0 blk n d w) := S
  have HR : Hid (Row0 enc k w0 blk n) := R
  have HC : Hid (Cmp0 P enc k w0 blk n g cf) := C
  have HO : Hid (CmpLt cf lt) := O
  have H1 : Hid (Srt lt a m d) := h1
  have H2 : Hid (Srt lt m b d) := h2
  have HX : Hid (Crs a m b d) := hc
  have HIH := Lib.hid IH
  have QR : Hid (∀ (d : Nat → Nat) (w : World), SW enc k w0 blk n d w → ∀ (a m b : Nat), a < m → m < b → b ≤ n → Calls P 37 #[.slice (some ⟨blk, 0, none⟩) n cap, .int .i64 a, .int .i64 m, .int .i64 b, .func (.func g) #[] #[]] w fun e w' => e = .returned (.tuple #[]) ∧ SW enc k w0 blk n (rotF d a m b) w') := fun _ _ S a m b q1 q2 q3 => stRot_any Y R hn cap _ S q1 q2 q3
  have hg1 : ((m : Int) - (a : Int) == 1) = false := beq_eq_false_iff_ne.2 (by omega)
  have hg2 : ((b : Int) - (m : Int) == 1) = false := beq_eq_false_iff_ne.2 (by omega)
  obtain ⟨mid, hmid⟩ : ∃ mid : Nat, (a + b) / 2 = mid := ⟨_, rfl⟩
  have hmz : ((a : Int) + (b : Int)) / 2 = (mid : Int) := by omega
  have hm1 : a + 2 ≤ mid := by omega
  have hm2 : mid - a ≤ b - mid := by omega
  have hm3 : mid + 2 ≤ b := by omega
  obtain ⟨nn, hnn⟩ : ∃ nn : Nat, mid + m = nn := ⟨_, rfl⟩
  have hnz : (mid : Int) + (m : Int) = (nn : Int) := by omega
  have HNN := Lib.hid hnn
  clear S R C O h1 h2 hc IH hmid hnn
  go_enter Y.f36, Try.ntmps36
  go_upto_if 140 with fail
  go_cut [20, 21] (fun sv rv wx => ∃ s0 r0 : Nat, sv = .int .i64 s0 ∧ rv = .int .i64 r0 ∧ wx = w ∧ a ≤ s0 ∧ s0 ≤ r0 ∧ r0 ≤ m ∧ r0 ≤ mid ∧ nn ≤ s0 + b ∧ (s0 = a ∨ nn = s0 + b) ∧ (r0 = m ∨ r0 = mid))
  case first =>
    have hnn := HNN.out
    by_cases hm : mid < m
    · have hd : decide (mid < m) = true := decide_eq_true hm
      go_wp2
      go_meet
      exact ⟨nn - b, mid, by congr 1; omega, rfl, rfl, by omega, by omega, by omega, by omega, by omega, .inr (by omega), .inr rfl⟩
    · have hd : decide (mid < m) = false := decide_eq_false hm
      go_wp2
      go_meet
      exact ⟨a, m, rfl, rfl, rfl, by omega, by omega, by omega, by omega, by omega, .inl rfl, .inl rfl⟩
  case rest =>
    obtain ⟨s0, r0, rfl, rfl, rfl, hs1, hs2, hs3, hs4, hs5, hs6, hs7⟩ := hcut
    have HS6 := Lib.hid hs6
    have HS7 := Lib.hid hs7
    have hnn := HNN.out
    clear hs6 hs7
    go_wp2_with fail
    go_loopw [20, 21] (fun sv rv wr => ∃ s r : Nat, sv = .int .i64 s ∧ rv = .int .i64 r ∧ s0 ≤ s ∧ s ≤ r ∧ r ≤ r0 ∧ Hid (SW enc k w0 blk n d wr) ∧ Hid (s0 < s → lt (d (s - 1)) (d (nn - s))) ∧ Hid (r < r0 → lt (d (nn - 1 - r)) (d r))) (fun sv rv _ => (intOf rv).toNat - (intOf sv).toNat)
    case atStart => exact ⟨s0, r0, rfl, rfl, Nat.le_refl _, hs2, Nat.le_refl _, S0, (show Hid _ from fun h => by omega), (show Hid _ from fun h => by omega)⟩
    case round =>
      obtain ⟨s, r, rfl, rfl, hss, hsr, hrr, S1, HI, HJ⟩ := hrel
      clear S0
      by_cases hlt : s < r
      · obtain ⟨c, hh⟩ : ∃ c : Nat, (s + r) / 2 = c := ⟨_, rfl⟩
        have hh1 : ((s : Int) + (r : Int)) / 2 = (c : Int) := by omega
        have hih : s ≤ c := by omega
        have hhj : c < r := by omega
        obtain ⟨pc, hpc⟩ : ∃ pc : Nat, nn - 1 - c = pc := ⟨_, rfl⟩
        have hpz : (nn : Int) - 1 - (c : Int) = (pc : Int) := by omega
        have hpm : m ≤ pc := by omega
        have hpb : pc < b := by omega
        have HPC : Hid (nn - 1 - c = pc) := hpc
        have HPC2 : Hid (nn - (c + 1) = pc) := by show _ = _; omega
        clear hh hpc
        have l1 := S1.out.ld HR.out P (show pc < n by omega)
        have l2 := S1.out.ld HR.out P (show c < n by omega)
        have hcc := S1.out.cmp HC.out (d pc) (d c)
        have hcl := HX.out c pc (by omega) (by omega) hpm hpb
        have HIS : Hid (cf (d pc) (d c) < 0 ↔ lt (d pc) (d c)) := HO.out.is _ _ hcl
        have HNO : Hid (¬ cf (d pc) (d c) < 0 → lt (d c) (d pc)) := fun q => HO.out.no hcl q
        clear hcl
        generalize cf (d pc) (d c) = cv at *
        have q1 : (nn : Int) - 1 - (c : Int) < (n : Int) := by omega
        have e1 : ((nn : Int) - 1 - (c : Int)).toNat = pc := by omega
        have p1 : (0 : Int) ≤ (nn : Int) - 1 - (c : Int) := by omega
        have w1 : IntKind.i64.wrap ((nn : Int) - 1 - (c : Int)) = (nn : Int) - 1 - (c : Int) := by rw [IntKind.wrap_i64]; omega
        have p2 : (c : Int) ≤ (nn : Int) - 1 := by omega
        clear hpz
        have q2 : (c : Int) < (n : Int) := by omega
        by_cases hlv : cv < 0
        · have hdv : decide (cv < 0) = true := decide_eq_true hlv
          have HL := Lib.hid (HIS.out.1 hlv)
          go_wp2_with fail
          go_quiet_grown (first | (go_at_fn g; refine Calls.grown_of (hcc _ _)))
          have S3 : Hid (SW enc k w0 blk n d (grow (wr.drewN nq) osq)) := S1.out.grown nq osq
          clear l1 l2 hcc S1 HIS HNO HJ
          generalize grow (wr.drewN nq) osq = w2 at S3 ⊢
          clear nq osq
          go_wp2
          go_roundw
          case rel => exact ⟨s, c, rfl, rfl, hss, hih, by omega, S3, HI, (show Hid _ from fun _ => by rw [HPC.out]; exact HL.out)⟩
          case measure => simp [intOf]; omega
        · have hdv : decide (cv < 0) = false := decide_eq_false hlv
          have HL := Lib.hid (HNO.out hlv)
          go_wp2_with fail
          go_quiet_grown (first | (go_at_fn g; refine Calls.grown_of (hcc _ _)))
          have S3 : Hid (SW enc k w0 blk n d (grow (wr.drewN nq) osq)) := S1.out.grown nq osq
          clear l1 l2 hcc S1 HIS HNO HI
          generalize grow (wr.drewN nq) osq = w2 at S3 ⊢
          clear nq osq
          go_wp2
          go_roundw
          case rel => exact ⟨c + 1, r, by go_num, rfl, by omega, by omega, hrr, S3, (show Hid _ from fun _ => by rw [Nat.add_sub_cancel, HPC2.out]; exact HL.out), HJ⟩
          case measure => simp [intOf]; omega
      · obtain rfl : s = r := by omega
        obtain ⟨en, hen⟩ : ∃ en : Nat, nn - s = en := ⟨_, rfl⟩
        have hez : (nn : Int) - (s : Int) = (en : Int) := by omega
        have hme : m ≤ en := by omega
        have heb : en ≤ b := by omega
        have hsm : s ≤ m := by omega
        have has : a ≤ s := by omega
        have hsd : s ≤ mid := by omega
        have hmm : s + (en - m) = mid := by omega
        have Q2 : Hid (m < en → s < m → lt (d (en - 1)) (d s)) := fun q1 q2 => by
          have h7 := HS7.out
          have := HJ.out (by omega)
          rwa [show nn - 1 - s = en - 1 by omega] at this
        have Q4 : Hid (a < s → en < b → lt (d (s - 1)) (d en)) := fun q1 q2 => by
          have h6 := HS6.out
          have := HI.out (by omega)
          rwa [hen] at this
        obtain ⟨p1, p2, p3, p4⟩ := rot_parts H1.out H2.out has hsm hme heb
        obtain ⟨x1, x2⟩ := rot_crs HX.out has hsm hme heb
        rw [hmm] at p2 p3 x1 x2
        have HFIN : Hid (∀ d2 d3, Mix a mid (rotF d s m en) d2 → Srt lt a mid d2 → Mix mid b d2 d3 → Srt lt mid b d3 → Mix a b d d3 ∧ Srt lt a b d3) := fun d2 d3 m1 s1 m2 s2 =>
          sym_fin HO.out.o H1.out H2.out has hsm hme heb hmm Q2.out Q4.out m1 s1 m2 s2
        have HP1 := Lib.hid p1
        have HP2 := Lib.hid p2
        have HP3 := Lib.hid p3
        have HP4 := Lib.hid p4
        have HX1 := Lib.hid x1
        have HX2 := Lib.hid x2
        have HSAME : Hid (s = m ∨ m = en → rotF d s m en = d) := fun q => rot_same d q hsm hme
        clear p1 p2 p3 p4 x1 x2 Q2 Q4 HI HJ H1 H2 HX HS6 HS7 hen hnn HNN
        by_cases c1 : s < m
        · by_cases c2 : m < en
          · -- a rotation
            have Q := Lib.hid (QR.out d wr S1.out s m en c1 c2 (by omega))
            have z1 : mid < en := by omega
            have z2 : s < mid := by omega
            clear S1 HSAME
            go_wp2_with fail
            refine Q.out.mono ?_
            rintro e w2 ⟨rfl, S2⟩
            have HS2 := Lib.hid S2
            clear Q S2
            generalize rotF d s m en = d1 at *
            by_cases c3 : a < s
            · have Q := Lib.hid (HIH.out a s mid d1 w2 c3 z2 (by omega) (by omega) HS2.out HP1.out HP2.out HX1.out)
              clear HS2
              go_wp2_with fail
              refine Q.out.mono ?_
              rintro e w3 ⟨rfl, d2, S3, M3, T3⟩
              have HS3 := Lib.hid S3
              have HM3 := Lib.hid M3
              have HT3 := Lib.hid T3
              clear Q S3 M3 T3
              by_cases c4 : en < b
              · have Q := Lib.hid (HIH.out mid en b d2 w3 z1 c4 hb (by omega) HS3.out (HM3.out.srt_out HP3.out (.inr (Nat.le_refl _))) (HM3.out.srt_out HP4.out (.inr (by omega))) (HM3.out.crs_out HX2.out (.inr (Nat.le_refl _)) (by omega) heb))
                clear HS3
                go_wp2_with fail
                refine Q.out.mono ?_
                rintro e w4 ⟨rfl, d3, S4, M4, T4⟩
                have HF := Lib.hid (HFIN.out d2 d3 HM3.out HT3.out M4 T4)
                have HS4 := Lib.hid S4
                clear Q S4 M4 T4
                go_wp2
                go_end0
                exact ⟨rfl, d3, HS4.out, HF.out.1, HF.out.2⟩
              · have e1 : en = b := by omega
                have HF := Lib.hid (HFIN.out d2 d2 HM3.out HT3.out (Mix.refl _ _ _) (HM3.out.srt_out (by rw [← e1]; exact HP3.out) (.inr (Nat.le_refl _))))
                clear e1
                go_wp2
                go_end0
                exact ⟨rfl, d2, HS3.out, HF.out.1, HF.out.2⟩
            · have e0 : s = a := by omega
              have HT2 : Hid (Srt lt a mid d1) := by show Srt _ _ _ _; rw [← e0]; exact HP2.out
              clear e0
              by_cases c4 : en < b
              · have Q := Lib.hid (HIH.out mid en b d1 w2 z1 c4 hb (by omega) HS2.out HP3.out HP4.out HX2.out)
                clear HS2
                go_wp2_with fail
                refine Q.out.mono ?_
                rintro e w4 ⟨rfl, d3, S4, M4, T4⟩
                have HF := Lib.hid (HFIN.out d1 d3 (Mix.refl _ _ _) HT2.out M4 T4)
                have HS4 := Lib.hid S4
                clear Q S4 M4 T4
                go_wp2
                go_end0
                exact ⟨rfl, d3, HS4.out, HF.out.1, HF.out.2⟩
              · have e1 : en = b := by omega
                have HF := Lib.hid (HFIN.out d1 d1 (Mix.refl _ _ _) HT2.out (Mix.refl _ _ _) (by rw [← e1]; exact HP3.out))
                clear e1
                go_wp2
                go_end0
                exact ⟨rfl, d1, HS2.out, HF.out.1, HF.out.2⟩
          · -- [m, en) is empty: s = mid, en = m
            have e1 : m = en := by omega
            have e2 := HSAME.out (.inr e1)
            rw [e2] at HP1 HP2 HP3 HP4 HX1 HX2 HFIN
            have z0 : ¬ s < mid := by omega
            have z1 : mid < en := by omega
            have z2 : en < b := by omega
            have HT2 : Hid (Srt lt a mid d) := by show Srt _ _ _ _; rw [show mid = s by omega]; exact HP1.out
            have Q := Lib.hid (HIH.out mid en b d wr z1 z2 hb (by omega) S1.out HP3.out HP4.out HX2.out)
            clear S1 HSAME e1 e2
            go_wp2_with fail
            refine Q.out.mono ?_
            rintro e w4 ⟨rfl, d3, S4, M4, T4⟩
            have HF := Lib.hid (HFIN.out d d3 (Mix.refl _ _ _) HT2.out M4 T4)
            have HS4 := Lib.hid S4
            clear Q S4 M4 T4
            go_wp2
            go_end0
            exact ⟨rfl, d3, HS4.out, HF.out.1, HF.out.2⟩
        · -- [s, m) is empty: s = m, en = mid
          have e1 : s = m := by omega
          have e2 := HSAME.out (.inl e1)
          rw [e2] at HP1 HP2 HP3 HP4 HX1 HX2 HFIN
          have z0 : ¬ mid < en := by omega
          have HT3 : Hid (Srt lt mid b d) := by show Srt _ _ _ _; rw [show mid = en by omega]; exact HP4.out
          have z3 : a < s := by omega
          by_cases c3 : s < mid
          · have Q := Lib.hid (HIH.out a s mid d wr z3 c3 (by omega) (by omega) S1.out HP1.out HP2.out HX1.out)
            clear S1 HSAME e1 e2
            go_wp2_with fail
            refine Q.out.mono ?_
            rintro e w3 ⟨rfl, d2, S3, M3, T3⟩
            have HF := Lib.hid (HFIN.out d2 d2 M3 T3 (Mix.refl _ _ _) (M3.srt_out HT3.out (.inr (Nat.le_refl _))))
            have HS3 := Lib.hid S3
            clear Q S3 M3 T3
            go_wp2
            go_end0
            exact ⟨rfl, d2, HS3.out, HF.out.1, HF.out.2⟩
          · have e3 : mid = s := by omega
            have HF := Lib.hid (HFIN.out d d (Mix.refl _ _ _) (by rw [e3]; exact HP1.out) (Mix.refl _ _ _) HT3.out)
            clear e1 e2 e3 HSAME
            go_wp2
            go_end0
            exact ⟨rfl, d, S1.out, HF.out.1, HF.out.2⟩

theorem stSym_any {P : Program} {k : Nat} (Y : Ly P k) {enc : Nat → List Value} {w0 : World} {blk n g : Nat} {cf : Nat → Nat → Int} {lt : Nat → Nat → Prop} (R : Row0 enc k w0 blk n) (C : Cmp0 P enc k w0 blk n g cf) (O : CmpLt cf lt) (hn : n ≤ 100000) (cap : Nat) :
    ∀ (N a m b : Nat) (d : Nat → Nat) (w : World), b - a ≤ N → a < m → m < b → b ≤ n → SW enc k w0 blk n d w → Srt lt a m d → Srt lt m b d → Crs a m b d →
      Calls P 36 #[.slice (some ⟨blk, 0, none⟩) n cap, .int .i64 a, .int .i64 m, .int .i64 b, .func (.func g) #[] #[]] w (SymOut lt enc k w0 blk n a b d) := by
  intro N
  induction N with
  | zero => intro a m b d w h1 h2 h3; omega
  | succ N ih =>
    intro a m b d w hN h1 h2 hb S s1 s2 x
    by_cases c1 : m = a + 1
    · exact stSym1_any Y R C O hn cap S c1 h2 hb s1 s2 x
    · by_cases c2 : b = m + 1
      · exact stSym2_any Y R C O hn cap S (by omega) c2 hb s1 s2 x
      · exact stSymG_any Y R C O hn cap S (by omega) (by omega) hb s1 s2 x (fun a' m' b' d' w' q1 q2 q3 q4 q5 q6 q7 q8 => ih a' m' b' d' w' (by omega) q1 q2 q3 q5 q6 q7 q8)
end Go.Proofs.Ytedllchlhdjanaa

/-
  slices.symMergeCmpFunc on a row of parts, where one of the two parts is a single one.
-/
import Derived.Test.YtedllchlhdjanaaCStIns
namespace Go.Proofs.Ytedllchlhdjanaa
open Go.Shelf Go.RowKit Go.Lib Go.Sort Fm
set_option linter.unusedVariables false

/-- What a merge of [a, m) and [m, b) leaves. -/
def SymOut (lt : Nat → Nat → Prop) (enc : Nat → List Value) (k : Nat) (w0 : World) (blk n a b : Nat) (d : Nat → Nat) (e : Ending) (w' : World) : Prop := e = .returned (.tuple #[]) ∧ ∃ d', SW enc k w0 blk n d' w' ∧ Mix a b d d' ∧ Srt lt a b d'

set_option maxHeartbeats 4000000 in
set_option maxRecDepth 100000 in
theorem stSym1_any {P : Program} {k : Nat} (Y : Ly P k) {enc : Nat → List Value} {w0 : World} {blk n g : Nat} {cf : Nat → Nat → Int} {lt : Nat → Nat → Prop} (R : Row0 enc k w0 blk n) (C : Cmp0 P enc k w0 blk n g cf) (O : CmpLt cf lt) (hn : n ≤ 100000) (cap : Nat) {d : Nat → Nat} {w : World} (S : SW enc k w0 blk n d w) {a m b : Nat} (ham : m = a + 1) (hmb : m < b) (hb : b ≤ n)
    (h1 : Srt lt a m d) (h2 : Srt lt m b d) (hc : Crs a m b d) :
    Calls P 36 #[.slice (some ⟨blk, 0, none⟩) n cap, .int .i64 a, .int .i64 m, .int .i64 b, .func (.func g) #[] #[]] w (SymOut lt enc k w0 blk n a b d) := by
  have mixed := Y.mixed; have tI := Y.tI; have aI := Y.aI; have zI := Y.zI; have tU := Y.tU; have aU := Y.aU; have zU := Y.zU; have tB := Y.tB; have aB := Y.aB; have zB := Y.zB; have tS := Y.tS; have aS := Y.aS; have zS := Y.zS; have aE := Y.aE; have zE := Y.zE
  have uS := run_underlying Y.tS
  have eg := C.enter
  have S0 : Hid (SW enc k w0 blk n d w) := S
  have HR : Hid (Row0 enc k w0 blk n) := R
  have HC : Hid (Cmp0 P enc k w0 blk n g cf) := C
  have HO : Hid (CmpLt cf lt) := O
  have H1 : Hid (Srt lt a m d) := h1
  have H2 : Hid (Srt lt m b d) := h2
  have HX : Hid (Crs a m b d) := hc
  have hg1 : ((m : Int) - (a : Int) == 1) = true := by rw [ham]; simp; omega
  have ham1 : a < m := by omega
  have HAM : Hid (m = a + 1) := ham
  clear S R C O h1 h2 hc ham
  go_enter Y.f36, Try.ntmps36
  go_wp2
  go_loopw [10, 11] (fun iv jv wr => ∃ i j : Nat, iv = .int .i64 i ∧ jv = .int .i64 j ∧ m ≤ i ∧ i ≤ j ∧ j ≤ b ∧ Hid (SW enc k w0 blk n d wr) ∧ Hid (m < i → lt (d (i - 1)) (d a)) ∧ Hid (j < b → lt (d a) (d j))) (fun iv jv _ => (intOf jv).toNat - (intOf iv).toNat)
  case atStart => exact ⟨m, b, rfl, rfl, Nat.le_refl _, by omega, Nat.le_refl _, S0, (show Hid _ from fun h => by omega), (show Hid _ from fun h => by omega)⟩
  case round =>
    obtain ⟨i, j, rfl, rfl, hmi, hij, hjb, S1, HI, HJ⟩ := hrel
    clear S0
    by_cases hlt : i < j
    · obtain ⟨h, hh⟩ : ∃ h : Nat, (i + j) / 2 = h := ⟨_, rfl⟩
      have hh1 : ((i : Int) + (j : Int)) / 2 = (h : Int) := by omega
      have hih : i ≤ h := by omega
      have hhj : h < j := by omega
      clear hh
      have l1 := S1.out.ld HR.out P (show h < n by omega)
      have l2 := S1.out.ld HR.out P (show a < n by omega)
      have hcc := S1.out.cmp HC.out (d h) (d a)
      have hcl := HX.out a h (Nat.le_refl _) ham1 (by omega) (by omega)
      have HIS : Hid (cf (d h) (d a) < 0 ↔ lt (d h) (d a)) := HO.out.is _ _ hcl
      have HNO : Hid (¬ cf (d h) (d a) < 0 → lt (d a) (d h)) := fun q => HO.out.no hcl q
      clear hcl
      generalize cf (d h) (d a) = cv at *
      have q1 : (h : Int) < (n : Int) := by omega
      have q2 : (a : Int) < (n : Int) := by omega
      by_cases hlv : cv < 0
      · have hdv : decide (cv < 0) = true := decide_eq_true hlv
        have HL := Lib.hid (HIS.out.1 hlv)
        go_wp2_with fail
        go_quiet_grown (first | (go_at_fn g; refine Calls.grown_of (hcc _ _)))
        have S3 : Hid (SW enc k w0 blk n d (grow (wr.drewN nq) osq)) := S1.out.grown nq osq
        clear l1 l2 hcc S1 HIS HNO HI
        generalize grow (wr.drewN nq) osq = w2 at S3 ⊢
        clear nq osq
        go_wp2
        go_roundw
        case rel => exact ⟨h + 1, j, by go_num, rfl, by omega, by omega, hjb, S3, (show Hid _ from fun _ => by rw [Nat.add_sub_cancel]; exact HL.out), HJ⟩
        case measure => simp [intOf]; omega
      · have hdv : decide (cv < 0) = false := decide_eq_false hlv
        have HL := Lib.hid (HNO.out hlv)
        go_wp2_with fail
        go_quiet_grown (first | (go_at_fn g; refine Calls.grown_of (hcc _ _)))
        have S3 : Hid (SW enc k w0 blk n d (grow (wr.drewN nq) osq)) := S1.out.grown nq osq
        clear l1 l2 hcc S1 HIS HNO HJ
        generalize grow (wr.drewN nq) osq = w2 at S3 ⊢
        clear nq osq
        go_wp2
        go_roundw
        case rel => exact ⟨i, h, rfl, rfl, hmi, hih, by omega, S3, HI, (show Hid _ from fun _ => HL.out)⟩
        case measure => simp [intOf]; omega
    · obtain rfl : i = j := by omega
      have HFIN : Hid (Mix a b d (rotF d a (a + 1) i) ∧ Srt lt a b (rotF d a (a + 1) i)) := by
        have e1 := HAM.out
        subst e1
        refine ⟨(mix_rot d (by omega) hmi).mono (Nat.le_refl _) hjb, rot_srt HO.out.o H1.out H2.out (Nat.le_refl _) (by omega) hmi hjb (fun q => by omega) (fun q _ => HI.out q) (fun _ q => ?_) (fun q => by omega)⟩
        rw [Nat.add_sub_cancel]
        exact HJ.out q
      clear HI HJ H1 H2 HX
      have hai : a + 1 ≤ i := by omega
      obtain ⟨wo, rfl⟩ : ∃ wo, wo = wr := ⟨_, rfl⟩
      go_wp2_with fail
      go_loopw [13] (fun cv wr => ∃ c : Nat, cv = .int .i64 c ∧ a ≤ c ∧ c + 1 ≤ i ∧ Hid (SW enc k w0 blk n (rotF d a (a + 1) (c + 1)) wr)) (fun cv _ => i - (intOf cv).toNat)
      case atStart => exact ⟨a, rfl, Nat.le_refl _, hai, by rw [rot_same d (.inr rfl) (by omega) (Nat.le_refl _)]; exact S1⟩
      case round =>
        obtain ⟨c, rfl, hac, hci, S2⟩ := hrel
        clear S1
        by_cases hlt2 : c + 1 < i
        · have S4 := S2.out.swapped HR.out (show c < n by omega) (show c + 1 < n by omega)
          have l1 := S2.out.ld1 HR.out P (show c < n by omega)
          have l2 := S2.out.ld1 HR.out P (show c + 1 < n by omega)
          have s1 := S2.out.st1 HR.out P (show c < n by omega) (rotF d a (a + 1) (c + 1) (c + 1))
          have s2 := S2.out.st2 HR.out P (show c < n by omega) (show c + 1 < n by omega) (rotF d a (a + 1) (c + 1) (c + 1)) (rotF d a (a + 1) (c + 1) c)
          rw [rot_up d hac] at S4
          have n1 : (enc (rotF d a (a + 1) (c + 1) c)).length = k := HR.out.row.hk _
          have n2 : (enc (rotF d a (a + 1) (c + 1) (c + 1))).length = k := HR.out.row.hk _
          generalize enc (rotF d a (a + 1) (c + 1) c) = cI at S4 l1 s2 n1
          generalize enc (rotF d a (a + 1) (c + 1) (c + 1)) = cJ at S4 l2 s1 s2 n2
          have HS4 := Lib.hid S4
          have e1 : ((c : Int) + 1).toNat = c + 1 := by omega
          have p1 : (0 : Int) ≤ (c : Int) + 1 := by omega
          have q1 : (c : Int) + 1 < (n : Int) := by omega
          have q2 : (c : Int) < (n : Int) := by omega
          have w1 : IntKind.i64.wrap ((c : Int) + 1) = (c : Int) + 1 := by rw [IntKind.wrap_i64]; omega
          have hz : (c : Int) < (i : Int) - 1 := by omega
          clear S2 S4
          go_wp2_with fail
          go_big_region_o
          clear l1 l2 s1 s2
          generalize (wr.drew.setCells blk (c * k) cJ).setCells blk ((c + 1) * k) cI = w3 at HS4 ⊢
          go_wp2
          go_roundw
          case rel => exact ⟨c + 1, by go_num, by omega, by omega, HS4⟩
          case measure => simp [intOf]; omega
        · obtain rfl : i = c + 1 := by omega
          have hz : ¬ (c : Int) < ((c + 1 : Nat) : Int) - 1 := by omega
          go_wp2
          go_end0
          exact ⟨rfl, _, S2.out, HFIN.out.1, HFIN.out.2⟩

set_option maxHeartbeats 4000000 in
set_option maxRecDepth 100000 in
theorem stSym2_any {P : Program} {k : Nat} (Y : Ly P k) {enc : Nat → List Value} {w0 : World} {blk n g : Nat} {cf : Nat → Nat → Int} {lt : Nat → Nat → Prop} (R : Row0 enc k w0 blk n) (C : Cmp0 P enc k w0 blk n g cf) (O : CmpLt cf lt) (hn : n ≤ 100000) (cap : Nat) {d : Nat → Nat} {w : World} (S : SW enc k w0 blk n d w) {a m b : Nat} (ham : a + 1 < m) (hmb : b = m + 1) (hb : b ≤ n)
    (h1 : Srt lt a m d) (h2 : Srt lt m b d) (hc : Crs a m b d) :
    Calls P 36 #[.slice (some ⟨blk, 0, none⟩) n cap, .int .i64 a, .int .i64 m, .int .i64 b, .func (.func g) #[] #[]] w (SymOut lt enc k w0 blk n a b d) := by
  have mixed := Y.mixed; have tI := Y.tI; have aI := Y.aI; have zI := Y.zI; have tU := Y.tU; have aU := Y.aU; have zU := Y.zU; have tB := Y.tB; have aB := Y.aB; have zB := Y.zB; have tS := Y.tS; have aS := Y.aS; have zS := Y.zS; have aE := Y.aE; have zE := Y.zE
  have uS := run_underlying Y.tS
  have eg := C.enter
  have S0 : Hid (SW enc k w0 blk n d w) := S
  have HR : Hid (Row0 enc k w0 blk n) := R
  have HC : Hid (Cmp0 P enc k w0 blk n g cf) := C
  have HO : Hid (CmpLt cf lt) := O
  have H1 : Hid (Srt lt a m d) := h1
  have H2 : Hid (Srt lt m b d) := h2
  have HX : Hid (Crs a m b d) := hc
  have hg1 : ((m : Int) - (a : Int) == 1) = false := beq_eq_false_iff_ne.2 (by omega)
  have hg2 : ((b : Int) - (m : Int) == 1) = true := by rw [hmb]; simp; omega
  have hmn : m < n := by omega
  have HMB : Hid (b = m + 1) := hmb
  clear S R C O h1 h2 hc hmb
  go_enter Y.f36, Try.ntmps36
  go_wp2
  go_loopw [14, 15] (fun iv jv wr => ∃ i j : Nat, iv = .int .i64 i ∧ jv = .int .i64 j ∧ a ≤ i ∧ i ≤ j ∧ j ≤ m ∧ Hid (SW enc k w0 blk n d wr) ∧ Hid (a < i → lt (d (i - 1)) (d m)) ∧ Hid (j < m → lt (d m) (d j))) (fun iv jv _ => (intOf jv).toNat - (intOf iv).toNat)
  case atStart => exact ⟨a, m, rfl, rfl, Nat.le_refl _, by omega, Nat.le_refl _, S0, (show Hid _ from fun h => by omega), (show Hid _ from fun h => by omega)⟩
  case round =>
    obtain ⟨i, j, rfl, rfl, hai, hij, hjm, S1, HI, HJ⟩ := hrel
    clear S0
    by_cases hlt : i < j
    · obtain ⟨h, hh⟩ : ∃ h : Nat, (i + j) / 2 = h := ⟨_, rfl⟩
      have hh1 : ((i : Int) + (j : Int)) / 2 = (h : Int) := by omega
      have hih : i ≤ h := by omega
      have hhj : h < j := by omega
      clear hh
      have l1 := S1.out.ld HR.out P (show m < n by omega)
      have l2 := S1.out.ld HR.out P (show h < n by omega)
      have hcc := S1.out.cmp HC.out (d m) (d h)
      have hcl := HX.out h m (by omega) (by omega) (Nat.le_refl _) (by rw [HMB.out]; omega)
      have HIS : Hid (cf (d m) (d h) < 0 ↔ lt (d m) (d h)) := HO.out.is _ _ hcl
      have HNO : Hid (¬ cf (d m) (d h) < 0 → lt (d h) (d m)) := fun q => HO.out.no hcl q
      clear hcl
      generalize cf (d m) (d h) = cv at *
      have q1 : (h : Int) < (n : Int) := by omega
      have q2 : (m : Int) < (n : Int) := by omega
      by_cases hlv : cv < 0
      · have hdv : decide (cv < 0) = true := decide_eq_true hlv
        have HL := Lib.hid (HIS.out.1 hlv)
        go_wp2_with fail
        go_quiet_grown (first | (go_at_fn g; refine Calls.grown_of (hcc _ _)))
        have S3 : Hid (SW enc k w0 blk n d (grow (wr.drewN nq) osq)) := S1.out.grown nq osq
        clear l1 l2 hcc S1 HIS HNO HJ
        generalize grow (wr.drewN nq) osq = w2 at S3 ⊢
        clear nq osq
        go_wp2
        go_roundw
        case rel => exact ⟨i, h, rfl, rfl, hai, hih, by omega, S3, HI, (show Hid _ from fun _ => HL.out)⟩
        case measure => simp [intOf]; omega
      · have hdv : decide (cv < 0) = false := decide_eq_false hlv
        have HL := Lib.hid (HNO.out hlv)
        go_wp2_with fail
        go_quiet_grown (first | (go_at_fn g; refine Calls.grown_of (hcc _ _)))
        have S3 : Hid (SW enc k w0 blk n d (grow (wr.drewN nq) osq)) := S1.out.grown nq osq
        clear l1 l2 hcc S1 HIS HNO HI
        generalize grow (wr.drewN nq) osq = w2 at S3 ⊢
        clear nq osq
        go_wp2
        go_roundw
        case rel => exact ⟨h + 1, j, by go_num, rfl, by omega, by omega, hjm, S3, (show Hid _ from fun _ => by rw [Nat.add_sub_cancel]; exact HL.out), HJ⟩
        case measure => simp [intOf]; omega
    · obtain rfl : i = j := by omega
      have HFIN : Hid (Mix a b d (rotF d i m (m + 1)) ∧ Srt lt a b (rotF d i m (m + 1))) := by
        have e1 := HMB.out
        subst e1
        refine ⟨(mix_rot d hjm (by omega)).mono hai (Nat.le_refl _), rot_srt HO.out.o H1.out H2.out hai hjm (by omega) (Nat.le_refl _) (fun q _ => HI.out q) (fun _ q => ?_) (fun _ q => by omega) (fun _ q => by omega)⟩
        rw [Nat.add_sub_cancel]
        exact HJ.out q
      clear HI HJ H1 H2 HX
      obtain ⟨wo, rfl⟩ : ∃ wo, wo = wr := ⟨_, rfl⟩
      go_wp2_with fail
      go_loopw [17] (fun cv wr => ∃ c : Nat, cv = .int .i64 c ∧ i ≤ c ∧ c ≤ m ∧ Hid (SW enc k w0 blk n (rotF d c m (m + 1)) wr)) (fun cv _ => (intOf cv).toNat)
      case atStart => exact ⟨m, rfl, hjm, Nat.le_refl _, by rw [rot_same d (.inl rfl) (Nat.le_refl _) (by omega)]; exact S1⟩
      case round =>
        obtain ⟨c', rfl, hic, hcm, S2⟩ := hrel
        clear S1
        by_cases hlt2 : i < c'
        · obtain ⟨c, rfl⟩ : ∃ c, c' = c + 1 := ⟨c' - 1, by omega⟩
          have S4 := S2.out.swapped HR.out (show c + 1 < n by omega) (show c < n by omega)
          have l1 := S2.out.ld1 HR.out P (show c + 1 < n by omega)
          have l2 := S2.out.ld1 HR.out P (show c < n by omega)
          have s1 := S2.out.st1 HR.out P (show c + 1 < n by omega) (rotF d (c + 1) m (m + 1) c)
          have s2 := S2.out.st2 HR.out P (show c + 1 < n by omega) (show c < n by omega) (rotF d (c + 1) m (m + 1) c) (rotF d (c + 1) m (m + 1) (c + 1))
          rw [rot_down d hcm] at S4
          have n1 : (enc (rotF d (c + 1) m (m + 1) (c + 1))).length = k := HR.out.row.hk _
          have n2 : (enc (rotF d (c + 1) m (m + 1) c)).length = k := HR.out.row.hk _
          generalize enc (rotF d (c + 1) m (m + 1) (c + 1)) = cI at S4 l1 s2 n1
          generalize enc (rotF d (c + 1) m (m + 1) c) = cJ at S4 l2 s1 s2 n2
          have HS4 := Lib.hid S4
          have e1 : ((c : Int) + 1).toNat = c + 1 := by omega
          have p1 : (0 : Int) ≤ (c : Int) + 1 := by omega
          have q1 : (c : Int) + 1 < (n : Int) := by omega
          have q2 : (c : Int) < (n : Int) := by omega
          have w1 : IntKind.i64.wrap (c : Int) = (c : Int) := by rw [IntKind.wrap_i64]; omega
          have hz : (i : Int) < (c : Int) + 1 := by omega
          clear S2 S4
          go_wp2_with fail
          go_big_region_o
          clear l1 l2 s1 s2
          generalize (wr.drew.setCells blk ((c + 1) * k) cJ).setCells blk (c * k) cI = w3 at HS4 ⊢
          go_wp2
          go_roundw
          case rel => exact ⟨c, by first | rfl | go_num | (congr 1; omega), by omega, by omega, HS4⟩
          case measure => first | (simp [intOf]; done) | (simp [intOf]; omega)
        · obtain rfl : c' = i := by omega
          go_wp2
          go_end0
          exact ⟨rfl, _, S2.out, HFIN.out.1, HFIN.out.2⟩
end Go.Proofs.Ytedllchlhdjanaa

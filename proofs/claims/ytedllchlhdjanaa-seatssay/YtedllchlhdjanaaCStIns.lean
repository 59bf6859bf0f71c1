/-
  slices.insertionSortCmpFunc on a row of parts: [a, b) sorted, where the parts lay in the order of their numbers.
-/
import Derived.Test.YtedllchlhdjanaaStabRow
namespace Go.Proofs.Ytedllchlhdjanaa
open Go.Shelf Go.RowKit Go.Lib Go.Sort Fm
set_option linter.unusedVariables false

/-- The comparison, and the order that it stands for: of two, the later one's is asked. -/
structure CmpLt (cf : Nat → Nat → Int) (lt : Nat → Nat → Prop) : Prop where
  o : STO lt
  is : ∀ x y, y < x → (cf x y < 0 ↔ lt x y)
theorem CmpLt.no {cf : Nat → Nat → Int} {lt : Nat → Nat → Prop} (h : CmpLt cf lt) {x y : Nat} (hxy : y < x) (hn : ¬ cf x y < 0) : lt y x := by
  rcases h.o.tot x y (by omega) with q | q
  · exact absurd ((h.is x y hxy).2 q) hn
  · exact q

set_option maxHeartbeats 4000000 in
set_option maxRecDepth 100000 in
theorem stIns_any {P : Program} {k : Nat} (Y : Ly P k) {enc : Nat → List Value} {w0 : World} {blk n g : Nat} {cf : Nat → Nat → Int} {lt : Nat → Nat → Prop} (R : Row0 enc k w0 blk n) (C : Cmp0 P enc k w0 blk n g cf) (O : CmpLt cf lt) (hn : n ≤ 100000) (cap : Nat) {d : Nat → Nat} {w : World} (S : SW enc k w0 blk n d w) {a b : Nat} (hab : a ≤ b) (hb : b ≤ n)
    (hinc : ∀ x y, a ≤ x → x < y → y < b → d x < d y) :
    Calls P 35 #[.slice (some ⟨blk, 0, none⟩) n cap, .int .i64 a, .int .i64 b, .func (.func g) #[] #[]] w fun e w' => e = .returned (.tuple #[]) ∧ ∃ d', SW enc k w0 blk n d' w' ∧ Mix a b d d' ∧ Srt lt a b d' := by
  have mixed := Y.mixed; have tI := Y.tI; have aI := Y.aI; have zI := Y.zI; have tB := Y.tB; have aB := Y.aB; have zB := Y.zB; have tS := Y.tS; have aS := Y.aS; have zS := Y.zS; have aE := Y.aE; have zE := Y.zE
  have uS := run_underlying Y.tS
  have eg := C.enter
  have S0 : Hid (SW enc k w0 blk n d w) := S
  have HR : Hid (Row0 enc k w0 blk n) := R
  have HC : Hid (Cmp0 P enc k w0 blk n g cf) := C
  have HO : Hid (CmpLt cf lt) := O
  have HI : Hid (∀ x y, a ≤ x → x < y → y < b → d x < d y) := hinc
  clear S R C O hinc
  go_enter Y.f35, Try.ntmps35
  go_wp2
  go_loopw [8] (fun iv wr => ∃ (i : Nat) (di : Nat → Nat), iv = .int .i64 i ∧ a + 1 ≤ i ∧ i ≤ b + 1 ∧ Hid (SW enc k w0 blk n di wr) ∧ Hid (i ≤ b → Mix a i d di ∧ Srt lt a i di) ∧ Hid (b < i → Mix a b d di ∧ Srt lt a b di)) (fun iv _ => b + 1 - (intOf iv).toNat)
  case atStart =>
    refine ⟨a + 1, d, by go_num, by omega, by omega, S0, (show Hid _ from fun _ => ⟨Mix.refl _ _ _, fun x y h1 h2 h3 => by omega⟩), (show Hid _ from fun h => ⟨Mix.refl _ _ _, fun x y h1 h2 h3 => by omega⟩)⟩
  case round =>
    obtain ⟨i, di, rfl, hai, hib, S1, HM, HM2⟩ := hrel
    clear S0
    by_cases hlt : i < b
    · obtain ⟨hmi, hsi⟩ := HM.out (by omega)
      have HMI : Hid (Mix a i d di) := hmi
      have HSI : Hid (Srt lt a i di) := hsi
      clear hmi hsi HM HM2
      obtain ⟨wo, rfl⟩ : ∃ wo, wo = wr := ⟨_, rfl⟩
      have HBI : Hid (∀ h, a ≤ h → h < i → di h < di i) := fun h h1 h2 => by
        obtain ⟨j, q1, q2, q3⟩ := HMI.out.from_ h h1 h2
        rw [q3, HMI.out.out i (by omega)]
        exact HI.out j i q1 q2 hlt
      go_wp2_with fail
      go_loopw [9] (fun jv wr => ∃ j : Nat, jv = .int .i64 j ∧ a ≤ j ∧ j ≤ i ∧ Hid (SW enc k w0 blk n (rotF di j i (i + 1)) wr) ∧ Hid (j < i → lt (di i) (di j))) (fun jv _ => (intOf jv).toNat)
      case atStart => exact ⟨i, rfl, by omega, Nat.le_refl _, by rw [rot_same di (.inl rfl) (Nat.le_refl _) (by omega)]; exact S1, (show Hid _ from fun h => by omega)⟩
      case round =>
        obtain ⟨j, rfl, haj, hji, S2, HJ⟩ := hrel
        clear S1
        have HOUT : Hid ((a < j → lt (di (j - 1)) (di i)) → Mix a (i + 1) d (rotF di j i (i + 1)) ∧ Srt lt a (i + 1) (rotF di j i (i + 1))) := fun hq => by
          refine ⟨((HMI.out.mono (Nat.le_refl _) (by omega)).trans ((mix_rot di hji (by omega)).mono haj (Nat.le_refl _))), ?_⟩
          refine rot_srt HO.out.o HSI.out (b := i + 1) (fun x y h1 h2 h3 => by omega) haj hji (by omega) (Nat.le_refl _) (fun h _ => hq h) (fun _ h => ?_) (fun _ h => by omega) (fun _ h => by omega)
          rw [show i + 1 - 1 = i by omega]
          exact HJ.out h
        by_cases hja : a < j
        · obtain ⟨jp, rfl⟩ : ∃ jp, j = jp + 1 := ⟨j - 1, by omega⟩
          have HX1 : Hid (rotF di (jp + 1) i (i + 1) (jp + 1) = di i) := by
            show _ = _
            rw [((rot_at di hji (show i ≤ i + 1 by omega) (jp + 1)).2.1 (Nat.le_refl _) (by omega))]
            congr 1; omega
          have HX2 : Hid (rotF di (jp + 1) i (i + 1) jp = di jp) := (rot_at di hji (show i ≤ i + 1 by omega) jp).1 (by omega)
          have l1 := S2.out.ld HR.out P (show jp + 1 < n by omega)
          have l2 := S2.out.ld HR.out P (show jp < n by omega)
          rw [HX1.out] at l1
          rw [HX2.out] at l2
          have hc := S2.out.cmp HC.out (di i) (di jp)
          have hcl := HBI.out jp (by omega) (by omega)
          have HIS : Hid (cf (di i) (di jp) < 0 ↔ lt (di i) (di jp)) := HO.out.is _ _ hcl
          have HNO : Hid (¬ cf (di i) (di jp) < 0 → lt (di jp) (di i)) := fun h => HO.out.no hcl h
          clear hcl
          generalize cf (di i) (di jp) = cv at *
          have e1 : ((jp : Int) + 1).toNat = jp + 1 := by omega
          have p1 : (0 : Int) ≤ (jp : Int) + 1 := by omega
          have q1 : (jp : Int) + 1 < (n : Int) := by omega
          have q2 : (jp : Int) < (n : Int) := by omega
          have wp : IntKind.i64.wrap (jp : Int) = (jp : Int) := by rw [IntKind.wrap_i64]; omega
          have hjz : (a : Int) < (jp : Int) + 1 := by omega
          by_cases hlv : cv < 0
          · have hdv : decide (cv < 0) = true := decide_eq_true hlv
            go_wp2_with fail
            go_quiet_grown (first | (go_at_fn g; refine Calls.grown_of (hc _ _)))
            have S3 : Hid (SW enc k w0 blk n (rotF di (jp + 1) i (i + 1)) (grow (wr.drewN nq) osq)) := S2.out.grown nq osq
            clear l1 l2 hc S2
            generalize grow (wr.drewN nq) osq = w2 at S3 ⊢
            clear nq osq
            have S4 := S3.out.swapped HR.out (show jp + 1 < n by omega) (show jp < n by omega)
            have l1 := S3.out.ld1 HR.out P (show jp + 1 < n by omega)
            have l2 := S3.out.ld1 HR.out P (show jp < n by omega)
            have s1 := S3.out.st1 HR.out P (show jp + 1 < n by omega) (rotF di (jp + 1) i (i + 1) jp)
            have s2 := S3.out.st2 HR.out P (show jp + 1 < n by omega) (show jp < n by omega) (rotF di (jp + 1) i (i + 1) jp) (rotF di (jp + 1) i (i + 1) (jp + 1))
            rw [rot_down di hji] at S4
            have n1 : (enc (rotF di (jp + 1) i (i + 1) (jp + 1))).length = k := HR.out.row.hk _
            have n2 : (enc (rotF di (jp + 1) i (i + 1) jp)).length = k := HR.out.row.hk _
            generalize enc (rotF di (jp + 1) i (i + 1) (jp + 1)) = cI at S4 l1 s2 n1
            generalize enc (rotF di (jp + 1) i (i + 1) jp) = cJ at S4 l2 s1 s2 n2
            have HS4 := Lib.hid S4
            have HL := Lib.hid (HIS.out.1 hlv)
            clear S3 S4 HOUT HX1 HX2 HIS HNO
            go_wp2_with fail
            go_big_region_o
            clear l1 l2 s1 s2
            generalize (w2.drew.setCells blk ((jp + 1) * k) cJ).setCells blk (jp * k) cI = w3 at HS4 ⊢
            go_wp2
            go_roundw
            case rel => exact ⟨jp, by first | rfl | go_num | (congr 1; omega), by omega, by omega, HS4, (show Hid _ from fun _ => HL.out)⟩
            case measure => first | (simp [intOf]; done) | (simp [intOf]; omega)
          · have hdv : decide (cv < 0) = false := decide_eq_false hlv
            go_wp2_with fail
            go_quiet_grown (first | (go_at_fn g; refine Calls.grown_of (hc _ _)))
            have S3 : Hid (SW enc k w0 blk n (rotF di (jp + 1) i (i + 1)) (grow (wr.drewN nq) osq)) := S2.out.grown nq osq
            have HL := Lib.hid (HOUT.out (fun _ => by rw [Nat.add_sub_cancel]; exact HNO.out hlv))
            clear l1 l2 hc S2 HOUT HIS HNO HX1 HX2
            generalize grow (wr.drewN nq) osq = w2 at S3 ⊢
            clear nq osq
            go_wp2
            go_roundw
            case rel => exact ⟨i + 1, _, by go_num, by omega, by omega, S3, (show Hid _ from fun _ => HL.out), (show Hid _ from fun h => by omega)⟩
            case measure => simp [intOf]; omega
        · have hjz : decide ((j : Int) > (a : Int)) = false := decide_eq_false (by omega)
          have hjz' : ¬ (a : Int) < (j : Int) := by omega
          have S3 : Hid (SW enc k w0 blk n (rotF di j i (i + 1)) wr.drew) := by
            have := S2.out.grown 1 #[]
            rw [grow_empty] at this
            exact this
          have HL := Lib.hid (HOUT.out (fun h => by omega))
          clear S2 HOUT HJ
          go_wp2_with fail
          go_big_region_o
          all_goals go_wp2
          go_roundw
          case rel => exact ⟨i + 1, _, by go_num, by omega, by omega, S3, (show Hid _ from fun _ => HL.out), (show Hid _ from fun h => by omega)⟩
          case measure => simp [intOf]; omega
    · have HL : Hid (Mix a b d di ∧ Srt lt a b di) := by
        by_cases e : i = b
        · subst e; exact HM.out (Nat.le_refl _)
        · exact HM2.out (by omega)
      go_wp2
      go_end0
      exact ⟨rfl, di, S1.out, HL.out.1, HL.out.2⟩
end Go.Proofs.Ytedllchlhdjanaa

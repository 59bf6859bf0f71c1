/-
  plumeref.Low: what it returns; nothing that was there is written.
-/
import Derived.Test.YtilgoinbajmamaaLowMath
import Derived.Test.YtilgoinbajmamaaMixP
import Derived.BigRegion
import Derived.RegionTactic
import Derived.BigQuiet
import Derived.Deep.QuietTactic
namespace Go.Proofs.Ytilgoinbajmamaa
open Go.RowKit Fm
set_option linter.unusedVariables false

/-- What Low leaves. -/
def LowOut (p q : Int) (w : World) (e : Ending) (w' : World) : Prop := ∃ P Q g : Int, 1 ≤ g ∧ p = P * g ∧ q = Q * g ∧ Int.gcd P Q = 1 ∧ e = .returned (.agg #[.int .i64 P, .int .i64 Q]) ∧ Below w.heap.size w w'

set_option maxHeartbeats 2000000 in
set_option maxRecDepth 100000 in
theorem low_any (p q : Int) (hq1 : 1 ≤ q) (hq2 : q ≤ 4000) (hp1 : -4000000 ≤ p) (hp2 : p ≤ 4000000) (w : World) :
    Calls Try.prog 30 #[.int .i64 p, .int .i64 q] w (LowOut p q w) := by
  have H0 := Lib.hid (LowAt.start (p := p) hq1)
  go_enter Try.func30, Try.ntmps30
  go_wp2_with fail
  go_loopw [0, 1, 5] (fun pv qv dv wr => ∃ (P Q g : Int) (d m : Nat), pv = .int .i64 P ∧ qv = .int .i64 Q ∧ dv = .int .i64 d ∧ 2 ≤ d ∧ d ≤ 4001 ∧ Hid (LowAt p q d P Q g) ∧ Hid (wr = (w.alloc (.cells #[.int .i64 0, .int .i64 0] 24)).drewN m)) (fun _ _ dv _ => 4001 - (intOf dv).toNat)
  case atStart => exact ⟨p, q, 1, 2, 0, rfl, rfl, rfl, by omega, by omega, H0, (show Hid _ from by show _ = _; rfl)⟩
  case round =>
    obtain ⟨P, Q, g, d, m, rfl, rfl, rfl, hd2, hd4, HL, HWR⟩ := hrel
    have hQ1 := HL.out.q1
    have hQq := HL.out.bdQ
    obtain ⟨hP1, hP2⟩ := HL.out.bdP (B := 4000000) ⟨hp1, hp2⟩
    clear H0
    by_cases hdQ : (d : Int) ≤ Q
    · have d1 : decide ((d : Int) ≤ Q) = true := decide_eq_true hdQ
      have hd40 : d ≤ 4000 := by omega
      obtain ⟨wo, rfl⟩ : ∃ wo, wo = wr := ⟨_, rfl⟩
      go_wp2_with fail
      go_loopw [0, 1] (fun pv qv wr => ∃ (P Q g : Int) (m : Nat), pv = .int .i64 P ∧ qv = .int .i64 Q ∧ Hid (LowAt p q d P Q g) ∧ Hid (wr = (w.alloc (.cells #[.int .i64 0, .int .i64 0] 24)).drewN m)) (fun _ qv _ => (intOf qv).toNat)
      case atStart => exact ⟨P, Q, g, m, rfl, rfl, HL, HWR⟩
      case round =>
        clear HL HWR hQ1 hQq hP1 hP2 hdQ d1
        obtain ⟨P, Q, g, m, rfl, rfl, HL, HWR⟩ := hrel
        have hQ1 := HL.out.q1
        have hQq := HL.out.bdQ
        obtain ⟨hP1, hP2⟩ := HL.out.bdP (B := 4000000) ⟨hp1, hp2⟩
        by_cases hdv : (d : Int) ∣ P ∧ (d : Int) ∣ Q
        · obtain ⟨P', eP, tP, vP, mP, wP⟩ := dvd_facts hd2 hdv.1
          obtain ⟨Q', eQ, tQ, vQ, mQ, wQ⟩ := dvd_facts hd2 hdv.2
          obtain ⟨hn, hlt⟩ := HL.out.cut hd2 eP eQ
          have HN := Lib.hid hn
          have n1 := hn.q1
          obtain ⟨n2, n3⟩ := hn.bdP (B := 4000000) ⟨hp1, hp2⟩
          clear hn eP eQ hdv HL
          go_wp2_with fail
          go_region
          all_goals
            go_wp2
            go_roundw
            case rel => exact ⟨P', Q', _, m + 1, rfl, rfl, HN, (show Hid _ from by show _ = _; rw [HWR.out]; rfl)⟩
            case measure => simp [intOf]; omega
        · have HN := Lib.hid (HL.out.next hdv)
          by_cases hdP : (d : Int) ∣ P
          · have hdQ2 : ¬ (d : Int) ∣ Q := fun h => hdv ⟨hdP, h⟩
            obtain ⟨P', _, tP, _, mP, _⟩ := dvd_facts hd2 hdP
            obtain ⟨tQ, mQ⟩ := not_dvd_facts hdQ2
            have b1 : (Q.tmod d == 0) = false := by simpa using tQ
            have b2 : (Q % d == 0) = false := by simpa using mQ
            clear hdv hdP hdQ2 HL
            go_wp2
            go_roundw
            case rel => exact ⟨P, Q, g, d + 1, m, rfl, rfl, by go_num, by omega, by omega, HN, HWR⟩
            case measure => simp [intOf]; omega
          · obtain ⟨tP, mP⟩ := not_dvd_facts hdP
            have b1 : (P.tmod d == 0) = false := by simpa using tP
            have b2 : (P % d == 0) = false := by simpa using mP
            clear hdv hdP HL
            go_wp2
            go_roundw
            case rel => exact ⟨P, Q, g, d + 1, m, rfl, rfl, by go_num, by omega, by omega, HN, HWR⟩
            case measure => simp [intOf]; omega
    · have d1 : decide ((d : Int) ≤ Q) = false := decide_eq_false hdQ
      have hgcd := HL.out.done (by omega)
      have HE := Lib.hid (show 1 ≤ g ∧ p = P * g ∧ q = Q * g from ⟨HL.out.g1, HL.out.eP, HL.out.eQ⟩)
      have HG := Lib.hid hgcd
      have hb : Below w.heap.size w ((w.alloc (.cells #[.int .i64 0, .int .i64 0] 24)).drewN m) := below_drewN ((Below.refl _ w).alloc (Nat.le_refl _) _) m
      obtain rfl := HWR.out
      clear HL hgcd hQ1 hQq hP1 hP2 HWR
      go_wp2
      (try simp only [Exit.inBlock, Exit.then])
      refine bodyPost_ret (v := .agg #[.int .i64 P, .int .i64 Q]) (by simp [results, Try.results30, go_sem]) rfl ?_
      obtain ⟨x1, x2, x3⟩ := HE.out
      exact ⟨P, Q, g, x1, x2, x3, HG.out, rfl, ((hb.setCell (p := ⟨w.heap.size, 0, none⟩) (Nat.le_refl _) _).setCell (p := ⟨w.heap.size, 1, none⟩) (Nat.le_refl _) _)⟩
end Go.Proofs.Ytilgoinbajmamaa

/-
  plumeref.kept at a right table: the lines of which no other one has more at each, in a row of its own; nothing that was there is written.
-/
import Derived.Test.YtimjepakdldacaaSqPay
import Derived.Test.YtimjepakdldacaaEquilMath
import Derived.Test.YtimjepakdldacaaPush
import Derived.Test.YtimjepakdldacaaOuts
import Derived.BigQuiet
import Derived.Deep.QuietTactic
namespace Fm
set_option linter.unusedVariables false

/-- The line z has more than the line x at each of q. -/
def moreL (M : List (List Int)) (q : List Int) (z x : Int) : Bool := q.all fun c => decide (ent M x.toNat c.toNat < ent M z.toNat c.toNat)
def worseL (M : List (List Int)) (l q : List Int) (x : Int) : Bool := l.any fun z => moreL M q z x
def restL (M : List (List Int)) (l q : List Int) : List Int := l.filter fun x => !worseL M l q x
section
variable {l : List Int} {P : Int → Bool} {t : Nat}
theorem takeI_succ (h : t < l.length) : l.take (t + 1) = l.take t ++ [l.getD t 0] := by rw [List.take_succ_eq_append_getElem h, getD_get h]
theorem allI_next (h : t < l.length) : (l.take (t + 1)).all P = ((l.take t).all P && P (l.getD t 0)) := by rw [takeI_succ h, List.all_append, List.all_cons, List.all_nil, Bool.and_true]
theorem anyI_next (h : t < l.length) : (l.take (t + 1)).any P = ((l.take t).any P || P (l.getD t 0)) := by rw [takeI_succ h, List.any_append, List.any_cons, List.any_nil, Bool.or_false]
theorem filI_next (h : t < l.length) : (l.take (t + 1)).filter P = (l.take t).filter P ++ if P (l.getD t 0) = true then [l.getD t 0] else [] := by
  rw [takeI_succ h, List.filter_append]
  congr 1
  by_cases q : P (l.getD t 0) = true
  · rw [if_pos q, List.filter_cons_of_pos q]; rfl
  · rw [if_neg q, List.filter_cons_of_neg q]; rfl
end
section
variable {M : List (List Int)} {n m : Nat} {R C : Nat → Bool}
theorem moreL_iff {z x : Nat} : moreL M (keptL m C) z x = true ↔ domL M C m z x := by
  unfold moreL domL
  rw [List.all_eq_true]
  constructor
  · intro h c hc hC
    have := h c (mem_keptL.2 ⟨c, rfl, hc, hC⟩)
    simpa using this
  · intro h c hc
    obtain ⟨y, rfl, hy, hC⟩ := mem_keptL.1 hc
    simpa using h y hy hC
theorem worseL_iff {x : Nat} : worseL M (keptL n R) (keptL m C) x = true ↔ ∃ z, z < n ∧ R z = true ∧ domL M C m z x := by
  unfold worseL
  rw [List.any_eq_true]
  constructor
  · rintro ⟨a, ha, h⟩
    obtain ⟨z, rfl, hz, hR⟩ := mem_keptL.1 ha
    exact ⟨z, hz, hR, moreL_iff.1 h⟩
  · rintro ⟨z, hz, hR, h⟩
    exact ⟨z, mem_keptL.2 ⟨z, rfl, hz, hR⟩, moreL_iff.2 h⟩
/-- What is kept. -/
def restB (M : List (List Int)) (n m : Nat) (R C : Nat → Bool) (x : Nat) : Bool := R x && !worseL M (keptL n R) (keptL m C) x
theorem restL_kept : restL M (keptL n R) (keptL m C) = keptL n (restB M n m R C) := by
  have h : ∀ L : List Int, (List.filter (fun x : Int => R x.toNat) (sides n)).filter (fun x => !worseL M L (keptL m C) x) = (sides n).filter (fun x : Int => R x.toNat && !worseL M L (keptL m C) (x.toNat : Nat)) := fun L => by
    rw [List.filter_filter]
    refine List.filter_congr (fun x hx => ?_)
    have := mem_sides.1 hx
    have e : ((x.toNat : Nat) : Int) = x := by omega
    rw [e, Bool.and_comm]
  exact h (keptL n R)
theorem restB_sub {x : Nat} (h : restB M n m R C x = true) : R x = true := by
  unfold restB at h
  simp only [Bool.and_eq_true] at h
  exact h.1
theorem restB_gone {x : Nat} (h : R x = true) (h2 : restB M n m R C x = false) : ∃ z, z < n ∧ R z = true ∧ domL M C m z x := by
  unfold restB at h2
  rw [h, Bool.true_and] at h2
  exact worseL_iff.1 (by simpa using h2)
theorem restB_stay {x : Nat} (h : restB M n m R C x = true) : ¬ ∃ z, z < n ∧ R z = true ∧ domL M C m z x := fun q => by
  unfold restB at h
  rw [worseL_iff.2 q] at h
  simp at h
theorem keptL_sub_len {R' : Nat → Bool} (h : ∀ x, R' x = true → R x = true) : (keptL n R').length ≤ (keptL n R).length := by
  have e : keptL n R' = (keptL n R).filter (fun x => R' x.toNat) := by
    unfold keptL
    rw [List.filter_filter]
    refine List.filter_congr (fun x hx => ?_)
    cases q : R' x.toNat with
    | true => rw [h _ q]; rfl
    | false => rfl
  rw [e]
  exact List.length_filter_le _ _
theorem keptL_sub_eq {R' : Nat → Bool} (h : ∀ x, R' x = true → R x = true) (hl : (keptL n R').length = (keptL n R).length) : keptL n R' = keptL n R ∧ ∀ x, x < n → R x = true → R' x = true := by
  have e : keptL n R' = (keptL n R).filter (fun x => R' x.toNat) := by
    unfold keptL
    rw [List.filter_filter]
    refine List.filter_congr (fun x hx => ?_)
    cases q : R' x.toNat with
    | true => rw [h _ q]; rfl
    | false => rfl
  have e2 : keptL n R' = keptL n R := by
    have hs := List.filter_sublist (l := keptL n R) (p := fun x => R' x.toNat)
    rw [← e] at hs
    exact hs.eq_of_length hl
  refine ⟨e2, fun x hx hR => ?_⟩
  have h1 : (x : Int) ∈ keptL n R' := by rw [e2]; exact mem_keptL.2 ⟨x, rfl, hx, hR⟩
  obtain ⟨y, h2, _, h3⟩ := mem_keptL.1 h1
  obtain rfl : x = y := by omega
  exact h3
end
end Fm
namespace Go.Proofs.Ytimjepakdldacaa
open Go.RowKit Fm
set_option linter.unusedVariables false

set_option maxHeartbeats 4000000 in
set_option maxRecDepth 100000 in
theorem kept_own {r k : Nat} {M : List (List Int)} (p : Pay r k M) (a al aq : Option Addr) (n c nl cl nq cq : Nat) (l q : List Int) (w : World) (hr : RdR w w.heap.size a n M) (hl : Rd w w.heap.size al nl l) (hq : Rd w w.heap.size aq nq q)
    (bl : ∀ x ∈ l, 0 ≤ x ∧ x < r) (bq : ∀ x ∈ q, 0 ≤ x ∧ x < k) (n6 : nl ≤ 6) (q6 : nq ≤ 6) :
    Calls Try.prog 36 #[.slice a n c, .slice al nl cl, .slice aq nq cq] w fun e w' => ∃ v, e = .returned v ∧ w'.ownsRow w.heap.size 3 1 v (restL M l q).length (I (restL M l q)) ∧ Below w.heap.size w w' := by
  obtain ⟨rfl, b, o, rfl, hb, hsq⟩ := rdr_sqP hr p
  have r6 := p.r6
  have k6 := p.k6
  have HSQ := Lib.hid hsq
  have HL := Lib.hid hl
  have HQ := Lib.hid hq
  have hll := hl.1
  have hlq := hq.1
  have BL : Hid (∀ i, i < nl → ∃ x : Nat, l.getD i 0 = x ∧ x < n) := fun i hi => by
    have := bl _ (getD_mem l i (by omega))
    exact ⟨(l.getD i 0).toNat, by omega, by omega⟩
  have BQ : Hid (∀ i, i < nq → ∃ x : Nat, q.getD i 0 = x ∧ x < k) := fun i hi => by
    have := bq _ (getD_mem q i (by omega))
    exact ⟨(q.getD i 0).toNat, by omega, by omega⟩
  have HALL : Hid (∀ t z x, t < nq → (q.take (t + 1)).all (fun c => decide (ent M x c.toNat < ent M z c.toNat)) = ((q.take t).all (fun c => decide (ent M x c.toNat < ent M z c.toNat)) && decide (ent M x (q.getD t 0).toNat < ent M z (q.getD t 0).toNat))) := fun t z x ht => allI_next (by omega)
  have HANY : Hid (∀ (s : Nat) (x : Int), s < nl → (l.take (s + 1)).any (fun z => moreL M q z x) = ((l.take s).any (fun z => moreL M q z x) || moreL M q (l.getD s 0) x)) := fun s x hs => anyI_next (by omega)
  have HFIL : Hid (∀ i, i < nl → (l.take (i + 1)).filter (fun x => !worseL M l q x) = (l.take i).filter (fun x => !worseL M l q x) ++ if (!worseL M l q (l.getD i 0)) = true then [l.getD i 0] else []) := fun i hi => filI_next (by omega)
  have HLEN : Hid (∀ i, ((l.take i).filter (fun x => !worseL M l q x)).length ≤ 6) := fun i => by
    have h1 := List.length_filter_le (fun x => !worseL M l q x) (l.take i)
    rw [List.length_take] at h1
    omega
  have HEND : Hid ((l.take nl).filter (fun x => !worseL M l q x) = restL M l q) := by
    show _ = _
    rw [List.take_of_length_le (by omega)]; rfl
  have HWE : Hid (∀ x : Int, (l.take nl).any (fun z => moreL M q z x) = worseL M l q x) := fun x => by rw [List.take_of_length_le (by omega)]; rfl
  have HME : Hid (∀ z x : Nat, (q.take nq).all (fun c => decide (ent M x c.toNat < ent M z c.toNat)) = moreL M q z x) := fun z x => by rw [List.take_of_length_le (by omega)]; rfl
  clear hr hsq p hl hq bl bq hll hlq
  go_enter Try.func36, Try.ntmps36
  go_wp2_with fail
  go_loopw [7, 18] (fun ov iv wr => ∃ i : Nat, i ≤ nl ∧ iv = .int .i64 i ∧ wr.ownsRow w.heap.size 3 1 ov ((l.take i).filter (fun x => !worseL M l q x)).length (I ((l.take i).filter (fun x => !worseL M l q x))) ∧ Below w.heap.size w wr) (fun _ iv _ => nl - (intOf iv).toNat)
  case atStart => exact ⟨0, Nat.zero_le _, rfl, World.ownsRow_nil _ _ _ _, Below.refl _ w⟩
  case round =>
    obtain ⟨i, hi, rfl, hown, hbel⟩ := hrel
    have hz := hbel.size
    by_cases hin : i < nl
    · obtain ⟨b1, o1, rfl, hb1, hcl⟩ := HL.out.at_ hin
      have t1 := (hbel.cell (by exact hb1)).trans hcl
      obtain ⟨x, hx, hxn⟩ := BL.out i hin
      have hfil := HFIL.out i hin
      rw [hx] at hfil t1 hcl
      have HF := Lib.hid hfil
      have HO := Lib.hid hown
      have HBE := Lib.hid hbel
      have HWX : Hid (∀ s, s < nl → (l.take (s + 1)).any (fun z => moreL M q z x) = ((l.take s).any (fun z => moreL M q z x) || moreL M q (l.getD s 0) x)) := fun s hs => HANY.out s x hs
      have HW0 : Hid ((l.take 0).any (fun z => moreL M q z x) = false) := rfl
      have HWEx := Lib.hid (HWE.out x)
      have d1 : decide ((i : Int) < (nl : Int)) = true := decide_eq_true (by omega)
      have HS2 := Lib.hid (HSQ.out.below hbel (Nat.le_refl _) hb)
      have HL2 := Lib.hid (HL.out.below hbel (Nat.le_refl _))
      have HQ2 := Lib.hid (HQ.out.below hbel (Nat.le_refl _))
      clear hfil hx hcl hbel
      obtain ⟨wo, hwo⟩ : ∃ wo, wo = wr := ⟨_, rfl⟩
      rw [← hwo] at HO HBE hz hown HS2 HL2 HQ2
      clear hown
      have HWR : Hid (∃ j, wr = wo.drewN j) := ⟨0, by rw [hwo]; rfl⟩
      clear hwo
      obtain ⟨bx, ox, cx, hbx, hcellx, _, _, hentx⟩ := HS2.out x hxn
      have HEX := Lib.hid hentx
      clear hentx
      go_wp2_with fail
      clear t1
      go_loopw [10, 24] (fun bv sv wr => ∃ s : Nat, s ≤ nl ∧ sv = .int .i64 s ∧ bv = .bool ((l.take s).any (fun z => moreL M q z x)) ∧ ∃ j, wr = wo.drewN j) (fun _ sv _ => nl - (intOf sv).toNat)
      case atStart => exact ⟨0, Nat.zero_le _, rfl, by rw [HW0.out], HWR.out⟩
      case round =>
        obtain ⟨s, hs, rfl, rfl, j, rfl⟩ := hrel
        clear HWR
        by_cases hsn : s < nl
        · obtain ⟨bz, oz, hba, hbz, hcz⟩ := HL2.out.at_ hsn
          injection hba with hba
          injection hba with e1 e2
          subst e1; subst e2
          obtain ⟨z, hz', hzn⟩ := BL.out s hsn
          have hany := HWX.out s hsn
          rw [hz'] at hany hcz
          have HAN := Lib.hid hany
          have HAL : Hid (∀ t, t < nq → (q.take (t + 1)).all (fun c => decide (ent M x c.toNat < ent M z c.toNat)) = ((q.take t).all (fun c => decide (ent M x c.toNat < ent M z c.toNat)) && decide (ent M x (q.getD t 0).toNat < ent M z (q.getD t 0).toNat))) := fun t ht => HALL.out t z x ht
          have HA0 : Hid ((q.take 0).all (fun c => decide (ent M x c.toNat < ent M z c.toNat)) = true) := rfl
          have HMEx := Lib.hid (HME.out z x)
          obtain ⟨bq, oq, cq', hbq, hcellz, _, _, hentz⟩ := HS2.out z hzn
          have HEZ := Lib.hid hentz
          have dsn : decide ((s : Int) < (nl : Int)) = true := decide_eq_true (by omega)
          have HJ : Hid (∃ j', wo.drewN j = wo.drewN j') := ⟨j, rfl⟩
          clear hany hz' hentz
          generalize (l.take s).any (fun z => moreL M q z x) = wb at *
          go_wp2_with fail
          clear hcz
          go_loopw [13, 30] (fun mv tv wr => ∃ t : Nat, t ≤ nq ∧ tv = .int .i64 t ∧ mv = .bool ((q.take t).all (fun c => decide (ent M x c.toNat < ent M z c.toNat))) ∧ ∃ j, wr = wo.drewN j) (fun _ tv _ => nq - (intOf tv).toNat)
          case atStart => exact ⟨0, Nat.zero_le _, rfl, by rw [HA0.out], HJ.out⟩
          case round =>
            obtain ⟨t, ht, rfl, rfl, j2, rfl⟩ := hrel
            by_cases htn : t < nq
            · obtain ⟨by', oy, rfl, hby, hcy⟩ := HQ2.out.at_ htn
              obtain ⟨y, hy', hyk⟩ := BQ.out t htn
              have hall := HAL.out t htn
              rw [hy'] at hall hcy
              have e1 := HEX.out y hyk
              have e2 := HEZ.out y hyk
              rw [Int.toNat_natCast] at hall
              have HA := Lib.hid hall
              have dtn : decide ((t : Int) < (nq : Int)) = true := decide_eq_true (by omega)
              clear hall hy'
              generalize ent M x y = vx at *
              generalize ent M z y = vz at *
              generalize (q.take t).all (fun c => decide (ent M x c.toNat < ent M z c.toNat)) = mb at *
              cases mb with
              | false =>
                have HX := Lib.hid HA.out
                rw [Bool.false_and] at HX
                clear HA
                go_wp2_with fail
                go_quiet (fail)
                go_wp2
                go_roundw
                case rel => exact ⟨t + 1, by omega, by go_num, by rw [HX.out], ⟨_, rfl⟩⟩
                case measure => simp [intOf]; omega
              | true =>
                have HX := Lib.hid HA.out
                rw [Bool.true_and] at HX
                clear HA
                go_wp2_with fail
                go_quiet (fail)
                go_wp2
                go_roundw
                case rel => exact ⟨t + 1, by omega, by go_num, by rw [HX.out], ⟨_, rfl⟩⟩
                case measure => simp [intOf]; omega
            · obtain rfl : t = nq := by omega
              rw [HMEx.out]
              have HAN2 := Lib.hid HAN.out
              clear HAN
              generalize moreL M q z x = mb at *
              cases wb with
              | true =>
                rw [Bool.true_or] at HAN2
                go_wp2
                go_roundw
                case rel => exact ⟨s + 1, by omega, by go_num, by rw [HAN2.out], ⟨_, rfl⟩⟩
                case measure => simp [intOf]; omega
              | false =>
                rw [Bool.false_or] at HAN2
                go_wp2
                go_roundw
                case rel => exact ⟨s + 1, by omega, by go_num, by rw [HAN2.out], ⟨_, rfl⟩⟩
                case measure => simp [intOf]; omega
        · obtain rfl : s = nl := by omega
          rw [HWEx.out]
          have HF2 := Lib.hid HF.out
          have HO2 := Lib.hid (own_below HO.out (below_drewN (Below.refl _ wo) j) (Nat.le_refl _))
          have hb2 := below_drewN HBE.out j
          have hz2 : w.heap.size ≤ (wo.drewN j).heap.size := hz
          have h6 := HLEN.out i
          clear HF HO HBE HWEx
          generalize (l.take i).filter (fun x => !worseL M l q x) = ol at *
          obtain ⟨ol2, hol2⟩ : ∃ ol2, (l.take (i + 1)).filter (fun x => !worseL M l q x) = ol2 := ⟨_, rfl⟩
          rw [hol2] at HF2
          have HOL := Lib.hid hol2
          clear hol2
          generalize worseL M l q x = wb at *
          cases wb with
          | true =>
            have e : ol2 = ol := by rw [HF2.out]; simp
            subst e
            go_wp2
            go_roundw
            case rel => exact ⟨i + 1, by omega, by go_num, by rw [HOL.out]; exact HO2.out, hb2⟩
            case measure => simp [intOf]; omega
          | false =>
            have e : ol2 = ol ++ [(x : Int)] := by rw [HF2.out]; simp
            have HE := Lib.hid e
            clear e HF2
            generalize wo.drewN j = wr at *
            go_wp2_with (at_builtin; go_must (refine push1 rfl _ _ rfl wr w.heap.size _ ol.length ol x rfl rfl (by exact HO2.out) hz2 (by omega) ?_))
            intro g cap w1 own1 hgr _ _
            have hb1 : Below w.heap.size w w1 := hb2.grown hgr hz2 (own_not HO2.out)
            have own2 : w1.ownsRow w.heap.size 3 1 (.slice (some ⟨g, 0, none⟩) (ol.length + 1) cap) ol2.length (I ol2) := by rw [HE.out, List.length_append]; exact own1
            clear hgr HO2 own1 HE
            go_wp2
            go_roundw
            case rel => exact ⟨i + 1, by omega, by go_num, by rw [HOL.out]; exact own2, hb1⟩
            case measure => simp [intOf]; omega
    · obtain rfl : i = nl := by omega
      rw [HEND.out] at hown
      go_wp2
      go_ret
      exact ⟨_, rfl, hown, hbel⟩
end Go.Proofs.Ytimjepakdldacaa

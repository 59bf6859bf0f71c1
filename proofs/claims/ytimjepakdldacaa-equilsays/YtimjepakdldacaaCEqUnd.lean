/-
  equil.undominated: the lines of which no other one that is left has more at each line of the other player that is left, in a row of the call's own; nothing that was there is written.
-/
import Derived.Test.YtimjepakdldacaaCEqUnd2
namespace Go.Proofs.Ytimjepakdldacaa
open Go.RowKit Fm
set_option linter.unusedVariables false

/-- Three boxes, the last one filled later. -/
theorem box3F (w : World) (v2 v3 v7 u : Value) (t2 t3 t7 : Nat) :
    (((w.alloc (.cells #[v2] t2)).alloc (.cells #[v3] t3)).alloc (.cells #[u] t7)).cell? ⟨w.heap.size + 1 + 1, 0, none⟩ = some u ∧
    (((w.alloc (.cells #[v2] t2)).alloc (.cells #[v3] t3)).alloc (.cells #[u] t7)).frozen? ⟨w.heap.size + 1 + 1, 0, none⟩ = false ∧
    (((w.alloc (.cells #[v2] t2)).alloc (.cells #[v3] t3)).alloc (.cells #[u] t7)).cell? ⟨w.heap.size, 0, none⟩ = some v2 ∧
    (((w.alloc (.cells #[v2] t2)).alloc (.cells #[v3] t3)).alloc (.cells #[u] t7)).cell? ⟨w.heap.size + 1, 0, none⟩ = some v3 ∧
    Below w.heap.size w (((w.alloc (.cells #[v2] t2)).alloc (.cells #[v3] t3)).alloc (.cells #[u] t7)) ∧
    (((w.alloc (.cells #[v2] t2)).alloc (.cells #[v3] t3)).alloc (.cells #[u] t7)).heap.size = w.heap.size + 3 := by
  have e1 : w.heap.size + 1 = (w.alloc (.cells #[v2] t2)).heap.size := by simp
  have e2 : w.heap.size + 1 + 1 = ((w.alloc (.cells #[v2] t2)).alloc (.cells #[v3] t3)).heap.size := by simp
  refine ⟨by rw [e2, World.cell?_alloc_new]; rfl, World.frozen?_alloc_at _ _ _ _ (by simp), ?_, ?_, (((Below.refl _ w).alloc (Nat.le_refl _) _).alloc (by simp) _).alloc (by simp; omega) _, by simp⟩
  · rw [World.cell?_alloc_lt _ _ _ (by simp; omega), World.cell?_alloc_lt _ _ _ (by simp), World.cell?_alloc_new]; rfl
  · rw [World.cell?_alloc_lt _ _ _ (by simp), e1, World.cell?_alloc_new]; rfl

set_option maxHeartbeats 4000000 in
set_option maxRecDepth 100000 in
theorem und_any {kf g r k : Nat} {M : List (List Int)} {R C : Nat → Bool} (hr6 : r ≤ 6) (hk6 : k ≤ 6) (al aq : Option Addr) (cl cq : Nat) (w : World) (hl : Rd w w.heap.size al (keptL r R).length (keptL r R)) (hq : Rd w w.heap.size aq (keptL k C).length (keptL k C))
    (hi : ∀ W g3, Below w.heap.size w W → g3 < W.heap.size → W.cell? ⟨g3, 0, none⟩ = some (.func (.func kf) #[] #[.pointer (some ⟨g, 0, none⟩)]) → InnerTells g3 r k (ent M) W) :
    Calls Try.prog 29 #[.slice al (keptL r R).length cl, .slice aq (keptL k C).length cq, .func (.func kf) #[] #[.pointer (some ⟨g, 0, none⟩)]] w
      fun e w' => ∃ v, e = .returned v ∧ w'.ownsRow w.heap.size 3 1 v (keptL r (restB M r k R C)).length (I (keptL r (restB M r k R C))) ∧ Below w.heap.size w w' := by
  have HL := Lib.hid hl
  have l6 : (keptL r R).length ≤ 6 := Nat.le_trans (keptL_le r R) hr6
  have q6 : (keptL k C).length ≤ 6 := Nat.le_trans (keptL_le k C) hk6
  obtain ⟨c7, _, c2, c3, hb1, hs1⟩ := box3F w (.slice aq (keptL k C).length cq) (.func (.func kf) #[] #[.pointer (some ⟨g, 0, none⟩)]) .nilFunc (.func (.func 51) #[] #[.pointer (some ⟨w.heap.size, 0, none⟩), .pointer (some ⟨w.heap.size + 1, 0, none⟩)]) 27 54 72
  have hst : ∀ (W : World) (a : Addr) (fn : Fn) (x y : Array Value), (store a (.func fn x y)).run Try.prog W = stored Try.prog W a (.func fn x y) .plain := fun W a fn x y => run_store Try.prog W a _ .plain rfl
  have HD : Hid (∀ W1 : World, W1.cell? ⟨w.heap.size, 0, none⟩ = some (.slice aq (keptL k C).length cq) → W1.cell? ⟨w.heap.size + 1, 0, none⟩ = some (.func (.func kf) #[] #[.pointer (some ⟨g, 0, none⟩)]) → Below w.heap.size w W1 → W1.heap.size = w.heap.size + 3 →
      DomTells w.heap.size (w.heap.size + 1) r (ent M) (keptL k C) W1) := fun W1 c2 c3 hb hs x y hx hy W hW => by
    have hz := hW.size
    have hiW := hi W (w.heap.size + 1) (ext_trans hb hW) (by omega) ((hW.cell (by show w.heap.size + 1 < _; omega)).trans c3)
    exact dom_any aq cq x y hx hy W w.heap.size (by omega) (by omega) (hq.below (ext_trans hb hW) (Nat.le_refl _)) (fun o ho => by obtain ⟨z, rfl, hz, _⟩ := mem_keptL.1 ho; omega) q6 hiW ((hW.cell (by show w.heap.size < _; omega)).trans c2)
  have HD1 := Lib.hid (HD.out _ c2 c3 hb1 hs1)
  have HC7 := Lib.hid c7
  have HB1 := Lib.hid hb1
  have HS1 := Lib.hid hs1
  have HBL : Hid (∀ x ∈ keptL r R, ∃ y : Nat, x = y ∧ y < r) := fun x hx => by
    obtain ⟨y, h1, h2, _⟩ := mem_keptL.1 hx
    exact ⟨y, h1, h2⟩
  have HFIL : Hid (∀ i, i < (keptL r R).length → ((keptL r R).take (i + 1)).filter (fun x => !worseL M (keptL r R) (keptL k C) x) = ((keptL r R).take i).filter (fun x => !worseL M (keptL r R) (keptL k C) x) ++ if (!worseL M (keptL r R) (keptL k C) ((keptL r R).getD i 0)) = true then [(keptL r R).getD i 0] else []) := fun i hi => filI_next hi
  have HLEN : Hid (∀ i, (((keptL r R).take i).filter (fun x => !worseL M (keptL r R) (keptL k C) x)).length ≤ 6) := fun i => by
    have h1 := List.length_filter_le (fun x => !worseL M (keptL r R) (keptL k C) x) ((keptL r R).take i)
    rw [List.length_take] at h1
    omega
  have HEND : Hid (((keptL r R).take (keptL r R).length).filter (fun x => !worseL M (keptL r R) (keptL k C) x) = keptL r (restB M r k R C)) := by
    show _ = _
    rw [List.take_of_length_le (Nat.le_refl _), ← restL_kept]; rfl
  clear hl hq hi HD c2 c3 c7 hb1 hs1
  generalize keptL r (restB M r k R C) = res at *
  generalize keptL r R = l at *
  generalize keptL k C = q at *
  have HNL : Hid (l.length = l.length) := rfl
  generalize hnl : l.length = nl at *
  have HNL2 : Hid (l.length = nl) := hnl
  clear hnl HNL
  have HNL := HNL2
  clear HNL2
  go_enter Try.func29, Try.ntmps29
  go_wp2_with fail
  have HSZ : Hid (∀ n, n ≤ w.heap.size + 2 → n < (((w.alloc (.cells #[.slice aq q.length cq] 27)).alloc (.cells #[.func (.func kf) #[] #[.pointer (some ⟨g, 0, none⟩)]] 54)).alloc (.cells #[.func (.func 51) #[] #[.pointer (some ⟨w.heap.size, 0, none⟩), .pointer (some ⟨w.heap.size + 1, 0, none⟩)]] 72)).heap.size) := fun n hn => by rw [HS1.out]; omega
  generalize ((w.alloc (.cells #[.slice aq q.length cq] 27)).alloc (.cells #[.func (.func kf) #[] #[.pointer (some ⟨g, 0, none⟩)]] 54)).alloc (.cells #[.func (.func 51) #[] #[.pointer (some ⟨w.heap.size, 0, none⟩), .pointer (some ⟨w.heap.size + 1, 0, none⟩)]] 72) = w1 at *
  have HL1 := Lib.hid (HL.out.below HB1.out (Nat.le_refl _))
  have hz1 := HB1.out.size
  clear HL hst
  go_loopw [8, 14] (fun ov iv wr => ∃ i : Nat, i ≤ nl ∧ iv = .int .i64 i ∧ wr.ownsRow w1.heap.size 3 1 ov ((l.take i).filter (fun x => !worseL M l q x)).length (I ((l.take i).filter (fun x => !worseL M l q x))) ∧ Below w1.heap.size w1 wr) (fun _ iv _ => nl - (intOf iv).toNat)
  case atStart => exact ⟨0, Nat.zero_le _, rfl, World.ownsRow_nil _ _ _ _, Below.refl _ w1⟩
  case round =>
    obtain ⟨i, hi, rfl, hown, hbel⟩ := hrel
    have hz := hbel.size
    by_cases hin : i < nl
    · obtain ⟨b1, o1, rfl, hb1, hcl⟩ := HL1.out.at_ hin
      have t1 := (hbel.cell (p := ⟨b1, o1 + i, none⟩) (by show b1 < _; omega)).trans hcl
      obtain ⟨x, hx, hxn⟩ := HBL.out _ (getD_mem l i (by rw [HNL.out]; exact hin))
      have hfil := HFIL.out i hin
      rw [hx] at hfil t1
      have HF := Lib.hid hfil
      have HO := Lib.hid hown
      have HBE := Lib.hid hbel
      have cy : (wr.alloc (.cells #[.int .i64 x] 3)).cell? ⟨wr.heap.size, 0, none⟩ = some (.int .i64 x) := by rw [World.cell?_alloc_new]; rfl
      have HBA : Hid (Below wr.heap.size wr (wr.alloc (.cells #[.int .i64 x] 3))) := (Below.refl _ wr).alloc (Nat.le_refl _) _
      have HLA : Hid (Rd (wr.alloc (.cells #[.int .i64 x] 3)) w.heap.size (some ⟨b1, o1, none⟩) nl l) := (HL1.out.below hbel (by omega)).below HBA.out (by omega)
      have HT : Hid (Tells 54 #[.pointer (some ⟨w.heap.size + 1 + 1, 0, none⟩), .pointer (some ⟨wr.heap.size, 0, none⟩)] l (fun z => moreL M q z x) (wr.alloc (.cells #[.int .i64 x] 3))) := by
        intro z hzl W hW
        obtain ⟨z, rfl, hzr⟩ := HBL.out z hzl
        have hWW := ext_trans hbel (ext_trans HBA.out hW)
        have he := moreF_ent M q z x
        show Calls Try.prog _ #[.int .i64 (z : Int), .pointer (some ⟨w.heap.size + 1 + 1, 0, none⟩), .pointer (some ⟨wr.heap.size, 0, none⟩)] W fun e w' => e = .returned (.bool (moreL M q (z : Int) (x : Int))) ∧ Below W.heap.size W w'
        rw [← he]
        exact worse_any z x hzr hxn W (fun x y hx hy W' hW' => HD1.out x y hx hy W' (ext_trans hWW hW')) ((hWW.cell (by show w.heap.size + 1 + 1 < _; have := HSZ.out (w.heap.size + 2) (Nat.le_refl _); omega)).trans HC7.out) ((hW.cell (by show wr.heap.size < _; simp)).trans cy)
      have HSA : Hid (w.heap.size ≤ (wr.alloc (.cells #[.int .i64 x] 3)).heap.size) := by show _ ≤ _; simp; omega
      have HWE : Hid (l.any (fun z => moreL M q z x) = worseL M l q x) := rfl
      have HYS : Hid (wr.heap.size < (wr.alloc (.cells #[.int .i64 x] 3)).heap.size) := by show _ < _; simp
      have hle := HLEN.out i
      have d1 : decide ((i : Int) < (nl : Int)) = true := decide_eq_true (by omega)
      clear hfil hx hcl hbel hown
      go_wp2_with fail
      refine (containsFuncI_any _ (fun _ _ => rfl) _ _ _ _ cl l _ w.heap.size HSA.out HLA.out (by omega) HT.out).mono ?_
      rintro e w2 ⟨rfl, hb2⟩
      rw [HWE.out]
      have cy2 := (hb2.cell (p := ⟨wr.heap.size, 0, none⟩) (by exact HYS.out)).trans cy
      have HBW := Lib.hid (ext_trans HBA.out hb2)
      have HO2 := Lib.hid (own_below HO.out HBW.out (Nat.le_refl _))
      have hb3 := ext_trans HBE.out HBW.out
      have hz2 := hb3.size
      clear HT HLA HSA HWE HYS HBA cy t1 hb2 HBE HO HBW
      generalize (l.take i).filter (fun x => !worseL M l q x) = ol at *
      obtain ⟨ol2, hol2⟩ : ∃ ol2, (l.take (i + 1)).filter (fun x => !worseL M l q x) = ol2 := ⟨_, rfl⟩
      rw [hol2] at HF
      have HOL := Lib.hid hol2
      clear hol2
      generalize worseL M l q x = wb at *
      cases wb with
      | true =>
        have e : ol2 = ol := by rw [HF.out]; simp
        subst e
        clear HF
        go_wp2
        go_roundw
        case rel => exact ⟨i + 1, by omega, by go_num, by rw [HOL.out]; exact HO2.out, hb3⟩
        case measure => simp [intOf]; omega
      | false =>
        have e : ol2 = ol ++ [(x : Int)] := by rw [HF.out]; simp
        have HE := Lib.hid e
        clear e HF
        go_wp2_with (at_builtin; go_must (refine push1 rfl _ _ rfl w2 w1.heap.size _ ol.length ol x rfl rfl (by exact HO2.out) hz2 (by omega) ?_))
        intro g9 cap w9 own9 hgr _ _
        have hb9 := hb3.grown hgr hz2 (own_not HO2.out)
        have own2 : w9.ownsRow w1.heap.size 3 1 (.slice (some ⟨g9, 0, none⟩) (ol.length + 1) cap) ol2.length (I ol2) := by rw [HE.out, List.length_append]; exact own9
        clear hgr HO2 own9 HE cy2
        go_wp2
        go_roundw
        case rel => exact ⟨i + 1, by omega, by go_num, by rw [HOL.out]; exact own2, hb9⟩
        case measure => simp [intOf]; omega
    · obtain rfl : i = nl := by omega
      rw [HEND.out] at hown
      have hbw := ext_trans HB1.out hbel
      have ho := own_mono hown hz1
      clear hown hbel
      go_wp2
      go_ret
      exact ⟨_, rfl, ho, hbw⟩
end Go.Proofs.Ytimjepakdldacaa

/-
  slices.DeleteFunc over a row of ints of the caller's own, whatever the function is that it is handed, if it answers P and writes nothing that was there.
-/
import Derived.Test.YtbpenheomiejfaaCFuncI
import Derived.Test.YtbpenheomiejfaaPush
import Derived.Lib.SliceRun
namespace Go.Proofs.Ytbpenheomiejfaa
open Go.RowKit Fm
set_option linter.unusedVariables false

theorem own_cut {w : World} {base g n cap i : Nat} {e : TypeId} {l : List Int} (h : w.ownsRow base e 1 (.slice (some ⟨g, 0, none⟩) n cap) n (I l)) (hi : i ≤ n) : w.ownsRow base e 1 (.slice (some ⟨g, 0, none⟩) i cap) i (I (l.take i)) := by
  have hl := own_len h
  refine ⟨by rw [I_len, List.length_take]; omega, ?_⟩
  rcases h.2 with ⟨h1, _⟩ | ⟨g', cap', cur, hv, h2, h3, h4, h5, h6, h7⟩
  · cases h1
  · injection hv with hv1 _ hv3
    injection hv1 with hv1
    injection hv1 with hv1
    subst hv1; subst hv3
    refine .inr ⟨g, cap, cur, rfl, h2, h3, by omega, h5, h6, ?_⟩
    have : cur.toList.take (i * 1) = (cur.toList.take (n * 1)).take i := by rw [List.take_take]; congr 1; omega
    rw [this, h7]
    unfold I
    rw [List.map_take]
theorem grown_of_below {w w' : World} (h : Below w.heap.size w w') (row : Option Nat) : w.grownBy w' row := ⟨h.os, h.tape, h.output, h.size, fun k hk _ => h.block k hk⟩
/-- As Tells, in every world in which all blocks but g lie as they were. -/
def TellsG (k : Nat) (env : Array Value) (l : List Int) (P : Int → Bool) (w : World) (g : Nat) : Prop :=
  ∀ x ∈ l, ∀ w1, w.grownBy w1 (some g) → Calls Try.prog k (#[.int .i64 x] ++ env) w1 fun e w' => e = .returned (.bool (P x)) ∧ Below w1.heap.size w1 w'
/-- What stands in the row: the kept ones of the first j, then whatever, then the others as they were. -/
structure Kept (P : Int → Bool) (l : List Int) (i j : Nat) (d : List Int) : Prop where
  len : d.length = l.length
  low : d.take i = (l.take j).filter fun x => !P x
  high : d.drop j = l.drop j
  cnt : i = ((l.take j).filter fun x => !P x).length
  lt : i < j
theorem filter_all {P : Int → Bool} {l : List Int} (h : ∀ x ∈ l, P x = false) : l.filter (fun x => !P x) = l := by
  rw [List.filter_eq_self]; intro x hx; rw [h x hx]; rfl
theorem filt_t {P : Int → Bool} {x : Int} (h : P x = true) : [x].filter (fun x => !P x) = [] := by rw [List.filter_cons, h]; rfl
theorem filt_f {P : Int → Bool} {x : Int} (h : P x = false) : [x].filter (fun x => !P x) = [x] := by rw [List.filter_cons, h]; rfl
theorem Kept.start {P : Int → Bool} {l : List Int} {i : Nat} (hi : i < l.length) (h1 : P (l.getD i 0) = true) (h2 : ∀ t, t < i → P (l.getD t 0) = false) : Kept P l i (i + 1) l := by
  have e : (l.take (i + 1)).filter (fun x => !P x) = l.take i := by
    rw [take_succ_getD l i hi, List.filter_append, filter_all (fun x hx => ?_)]
    · rw [filt_t h1, List.append_nil]
    · obtain ⟨t, ht, rfl⟩ := List.getElem_of_mem hx
      rw [List.length_take] at ht
      have := h2 t (by omega)
      rw [List.getElem_take, ← getD_get (by omega)]
      exact this
  exact ⟨rfl, e.symm, rfl, by rw [e, List.length_take]; omega, by omega⟩
theorem Kept.at_ {P : Int → Bool} {l d : List Int} {i j : Nat} (h : Kept P l i j d) (hj : j < l.length) : d.getD j 0 = l.getD j 0 := by
  have h1 : (d.drop j)[0]? = (l.drop j)[0]? := by rw [h.high]
  rw [List.getElem?_drop, List.getElem?_drop] at h1
  rw [List.getD_eq_getElem?_getD, List.getD_eq_getElem?_getD]
  simpa using congrArg (fun o => o.getD 0) h1
theorem Kept.keep {P : Int → Bool} {l d : List Int} {i j : Nat} (h : Kept P l i j d) (hj : j < l.length) (hp : P (l.getD j 0) = false) : Kept P l (i + 1) (j + 1) (d.set i (l.getD j 0)) := by
  have hi := h.lt
  have hl := h.len
  have e : (l.take (j + 1)).filter (fun x => !P x) = (l.take j).filter (fun x => !P x) ++ [l.getD j 0] := by
    rw [take_succ_getD l j hj, List.filter_append, filt_f hp]
  refine ⟨by simp [hl], ?_, ?_, ?_, by omega⟩
  · rw [e, ← h.low]
    apply List.ext_getElem?
    intro t
    rw [List.getElem?_take, List.getElem?_append, List.length_take, Nat.min_eq_left (by omega), List.getElem?_set, List.getElem?_take]
    by_cases h1 : t < i
    · rw [if_pos (by omega), if_neg (by omega), if_pos h1, if_pos h1]
    · by_cases h2 : t = i
      · subst h2
        rw [if_pos (by omega), if_pos rfl, if_pos (by omega), if_neg h1, Nat.sub_self]; rfl
      · rw [if_neg (by omega), if_neg h1]
        have : t - i = (t - i - 1) + 1 := by omega
        rw [this]; simp
  · rw [List.drop_set_of_lt (by omega)]
    have h1 := congrArg (List.drop 1) h.high
    rw [List.drop_drop, List.drop_drop] at h1
    exact h1
  · rw [e, List.length_append, ← h.cnt]; rfl
theorem Kept.skip {P : Int → Bool} {l d : List Int} {i j : Nat} (h : Kept P l i j d) (hj : j < l.length) (hp : P (l.getD j 0) = true) : Kept P l i (j + 1) d := by
  have e : (l.take (j + 1)).filter (fun x => !P x) = (l.take j).filter (fun x => !P x) := by
    rw [take_succ_getD l j hj, List.filter_append, filt_t hp, List.append_nil]
  refine ⟨h.len, by rw [e]; exact h.low, ?_, by rw [e]; exact h.cnt, by have := h.lt; omega⟩
  have h1 := congrArg (List.drop 1) h.high
  rw [List.drop_drop, List.drop_drop] at h1
  exact h1

set_option maxHeartbeats 2000000 in
set_option maxRecDepth 100000 in
theorem deleteFuncI_any (k : Nat) (hk : Enters k) (env : Array Value) (P : Int → Bool) (base g n cap : Nat) (l : List Int) (w : World) (own : w.ownsRow base 3 1 (.slice (some ⟨g, 0, none⟩) n cap) n (I l)) (hn : n ≤ 1000000) (hf : TellsG k env l P w g) :
    Calls Try.prog 77 #[.slice (some ⟨g, 0, none⟩) n cap, .func (.func k) #[] env] w fun e w' => ∃ m, e = .returned (.slice (some ⟨g, 0, none⟩) m cap) ∧ m ≤ n ∧ w'.ownsRow base 3 1 (.slice (some ⟨g, 0, none⟩) m cap) m (I (l.filter fun x => !P x)) ∧ w.grownBy w' (some g) := by
  have hl := own_len own
  have hcap : n ≤ cap ∧ cap ≤ maxLen := by
    rcases own.2 with ⟨h1, _⟩ | ⟨g', cap', cur, hv, _, _, h4, h5, _⟩
    · cases h1
    · injection hv with hv1 _ hv3; subst hv3; exact ⟨h4, h5⟩
  have HIX := Lib.hid (indexFuncI_any k hk env P (some ⟨g, 0, none⟩) n cap l w w.heap.size (Nat.le_refl _) (Rd.of_own own) (by omega) (fun x hx w1 hb => hf x hx w1 (grown_of_below hb _)))
  have HF := Lib.hid hf
  have HK : Hid (Enters k) := hk
  have HOWN := Lib.hid own
  have HL := Lib.hid hl
  clear hf hk own hl
  go_enter Try.func77, Try.ntmps77
  go_wp2_with fail
  refine HIX.out.mono ?_
  rintro e w1 ⟨r, rfl, h1, h2, hb1⟩
  clear HIX
  by_cases hall : ∀ x ∈ l, P x = false
  · obtain rfl := h1 hall
    have HFA := Lib.hid (filter_all hall)
    clear h1 h2 hall
    go_wp2
    go_ret
    exact ⟨n, rfl, Nat.le_refl _, by rw [HFA.out]; exact own_below HOWN.out hb1 (Nat.le_refl _), grown_of_below hb1 _⟩
  · obtain ⟨i0, rfl, hi0, hp0, hp1⟩ := h2 hall
    have HKS := Lib.hid (Kept.start (by rw [HL.out]; exact hi0) hp0 hp1)
    have hg1 : w.grownBy w1 (some g) := grown_of_below hb1 _
    have ho1 := own_below HOWN.out hb1 (Nat.le_refl _)
    have hi1 : ((i0 : Int) == -1) = false := by simp
    clear h1 h2 hall hp0 hp1 hb1 HOWN
    go_wp2_with fail
    go_loopw [5, 6] (fun iv jv wr => ∃ (i j : Nat) (d : List Int), j ≤ n ∧ iv = .int .i64 i ∧ jv = .int .i64 j ∧ Kept P l i j d ∧ wr.ownsRow base 3 1 (.slice (some ⟨g, 0, none⟩) n cap) n (I d) ∧ w.grownBy wr (some g)) (fun _ jv _ => n - (intOf jv).toNat)
    case atStart => exact ⟨i0, i0 + 1, l, by omega, rfl, by go_num, HKS.out, ho1, hg1⟩
    case round =>
      clear HKS hg1 ho1 hi0
      obtain ⟨i, j, d, hj, rfl, rfl, hkp, ho, hg⟩ := hrel
      have hij := hkp.lt
      by_cases hjn : j < n
      · have cj := own_cell ho j hjn
        rw [hkp.at_ (by rw [HL.out]; exact hjn)] at cj
        have ci := own_cell ho i (by omega)
        have fi := ho.frozenAt i
        have HCL := Lib.hid (HF.out (l.getD j 0) (getD_mem l j (by rw [HL.out]; exact hjn)) wr hg)
        have HKP : Hid (P (l.getD j 0) = false → Kept P l (i + 1) (j + 1) (d.set i (l.getD j 0))) := fun h => hkp.keep (by rw [HL.out]; exact hjn) h
        have HSK : Hid (P (l.getD j 0) = true → Kept P l i (j + 1) d) := fun h => hkp.skip (by rw [HL.out]; exact hjn) h
        have HST : Hid (∀ w6, Below wr.heap.size wr w6 → (w6.setCell ⟨g, i, none⟩ (.int .i64 (l.getD j 0))).ownsRow base 3 1 (.slice (some ⟨g, 0, none⟩) n cap) n (I (d.set i (l.getD j 0))) ∧ w.grownBy (w6.setCell ⟨g, i, none⟩ (.int .i64 (l.getD j 0))) (some g) ∧ w6.cell? ⟨g, i, none⟩ = some (.int .i64 (d.getD i 0)) ∧ w6.frozen? ⟨g, i, none⟩ = false) := fun w6 hb6 => by
          have o6 := own_below ho hb6 (Nat.le_refl _)
          obtain ⟨s1, g1⟩ := o6.stored i (.int .i64 (l.getD j 0))
          have es : (I d).set i (.int .i64 (l.getD j 0)) = I (d.set i (l.getD j 0)) := by unfold I; rw [List.map_set]
          rw [es] at s1
          exact ⟨s1, grown_trans (grown_trans hg (grown_of_below hb6 _)) g1, own_cell o6 i (by omega), o6.frozenAt i⟩
        have HO := Lib.hid ho
        have HG := Lib.hid hg
        clear hkp ho hg ci fi
        generalize P (l.getD j 0) = p at *
        generalize l.getD j 0 = x at *
        generalize d.set i x = d2 at *
        generalize d.getD i 0 = old at *
        go_wp2_with fail
        rw [HK.out, Oper.upon_enter]
        refine HCL.out.mono ?_
        rintro e w6 ⟨rfl, hb6⟩
        obtain ⟨t1, t2, t3, t4⟩ := HST.out w6 hb6
        clear HST HCL cj
        cases p with
        | false =>
          have HX := Lib.hid (HKP.out rfl)
          clear HO HG hb6 HSK HKP
          go_wp2
          go_roundw
          case rel => exact ⟨i + 1, j + 1, d2, by omega, by go_num, by go_num, HX.out, t1, t2⟩
          case measure => simp [intOf]; omega
        | true =>
          have HX := Lib.hid (HSK.out rfl)
          have o7 := own_below HO.out hb6 (Nat.le_refl _)
          have g7 := grown_trans HG.out (grown_of_below hb6 _)
          clear t1 t2 t3 t4 HO HG hb6 HSK HKP
          go_wp2
          go_roundw
          case rel => exact ⟨i, j + 1, d, by omega, rfl, by go_num, HX.out, o7, g7⟩
          case measure => simp [intOf]; omega
      · obtain rfl : j = n := by omega
        have hlow := hkp.low
        have el : l.take j = l := List.take_of_length_le (by rw [HL.out]; exact Nat.le_refl _)
        rw [el] at hlow
        have hdl := hkp.len
        rw [HL.out] at hdl
        have hcl : ∀ ty, (Builtin.clear_ #[23] ty #[.slice (some ⟨g, 0 + i, none⟩) (j - i) (cap - i)]).run Try.prog wr = .ok (.tuple #[]) (wr.setCells g (0 + i) (List.replicate (j - i) (.int .i64 0))) := fun ty =>
          Lib.run_clear_slice wr _ _ ty _ Try.underlying23 (fun w => by rfl) rfl rfl g (0 + i) _ _ (by omega) (fun t ht => by rw [Nat.zero_add, own_cell ho (i + t) (by omega)]; rfl) (fun t ht => by rw [Nat.zero_add]; exact ho.frozenAt (i + t))
        obtain ⟨o8, g8⟩ := own_setCells (List.replicate (j - i) (.int .i64 0)) i wr (I d) ho
        have e8 : List.replicate (j - i) (Value.int .i64 0) = (List.replicate (j - i) (0 : Int)).map (Value.int .i64) := by rw [List.map_replicate]
        rw [e8, setMany_I (List.replicate (j - i) 0) i d (by simp; omega)] at o8
        rw [← e8] at o8
        have o9 := own_cut o8 (i := i) (by omega)
        have e9 : (d.take i ++ List.replicate (j - i) 0).take i = d.take i := by
          rw [List.take_append_of_le_length (by rw [List.length_take]; omega), List.take_take, Nat.min_self]
        rw [e9, hlow] at o9
        have g9 := grown_trans hg g8
        clear e8 e9 o8 g8 ho hg hkp hlow hdl el
        simp only [Nat.zero_add] at hcl
        go_wp2
        go_ret
        exact ⟨i, rfl, by omega, o9, g9⟩
end Go.Proofs.Ytbpenheomiejfaa

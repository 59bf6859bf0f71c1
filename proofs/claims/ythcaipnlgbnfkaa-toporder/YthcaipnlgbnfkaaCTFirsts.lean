/-
  tally.Firsts: at votes it returns the first places, otherwise the error of tally.Check; nothing that was there is written.
-/
import Derived.Test.YthcaipnlgbnfkaaCTCheck
import Derived.Test.YthcaipnlgbnfkaaPureA
import Derived.Test.YthcaipnlgbnfkaaM4
import Derived.BigQuiet
import Derived.Deep.QuietTactic
import Derived.WalkKit
import Derived.KernelRfl
import Derived.Laws.NewBlocks
namespace Go.Proofs.Ythcaipnlgbnfkaa
open Go.RowKit Fm
set_option linter.unusedVariables false

theorem firstsE_nil (n : Int) (a : Option Addr) (m c : Nat) (V : List (List Int)) (w : World) (B : Nat) (hB : B ≤ w.heap.size) (hr : RdR w B a m V) (hm : m ≤ 17592186044416) (hv : vchk n V ≠ 0) :
    Calls Try.prog 86 #[.int .i64 n, .slice a m c] w (ErrNil (vchk n V) w) := by
  have HC := Lib.hid (tcheck_any n a m c V w B hB hr hm)
  have hne : (vchk n V != 0) = true := by simpa using hv
  clear hv hr
  generalize vchk n V = r at *
  go_enter Try.func86, Try.ntmps86
  go_wp2_with fail
  refine HC.out.mono ?_
  rintro e w1 ⟨rfl, hb⟩
  clear HC
  go_wp2
  go_ret2
  exact ⟨rfl, hb⟩
theorem firstsE_any (n : Int) (a : Option Addr) (m c : Nat) (V : List (List Int)) (w : World) (B : Nat) (hB : B ≤ w.heap.size) (hr : RdR w B a m V) (hm : m ≤ 17592186044416) (hv : vchk n V ≠ 0) :
    Calls Try.prog 86 #[.int .i64 n, .slice a m c] w (ErrOut (vchk n V) w) := (firstsE_nil n a m c V w B hB hr hm hv).mono fun _ _ h => h.out

set_option maxHeartbeats 2000000 in
set_option maxRecDepth 100000 in
theorem firsts_own (n : Nat) (a : Option Addr) (m c : Nat) (V : List (List Int)) (w : World) (B : Nat) (hB : B ≤ w.heap.size) (hr : RdR w B a m V) (hm : m ≤ 17592186044416) (hv : vchk n V = 0) :
    Calls Try.prog 86 #[.int .i64 n, .slice a m c] w (OwnOut (firstsL n V) w) := by
  obtain rfl := hr.1
  have HC := Lib.hid (tcheck_any n a V.length c V w B hB hr hm)
  rw [hv] at HC
  have hp := vperm hv
  obtain ⟨⟨h1, h6⟩, hV, _⟩ := vchk_zero hv
  have hmk : ∀ W : World, (Instr.makeSlice 22 (.int .i64 n) (.int .i64 n)).run Try.prog W = .ok (.slice (some ⟨W.heap.size, 0, none⟩) n n) (W.alloc (.cells (zeros n) 3)) := make_ints n (by omega)
  have HR := Lib.hid hr
  have HP := Lib.hid hp
  clear hr hp hv
  go_enter Try.func86, Try.ntmps86
  go_wp2_with fail
  refine HC.out.mono ?_
  rintro e w1 ⟨rfl, hb1⟩
  clear HC
  have hz1 := hb1.size
  have own0 := own_lit w1 3 (List.replicate n 0) (zeros n) rfl (by unfold maxLen; simp; omega)
  rw [List.length_replicate] at own0
  have own1 := own_mono own0 hz1
  have hz0 : List.replicate n (0 : Int) = firstsL n (V.take 0) := by
    rw [zeroL]; exact fnL_congr n (fun j hj => by simp [fst1])
  rw [hz0] at own1
  have hb2 := hb1.alloc hz1 (.cells (zeros n) 3)
  clear own0 hz0 hb1
  go_wp2_with fail
  clear hmk
  generalize w1.alloc (.cells (zeros n) 3) = w2 at *
  generalize w1.heap.size = g at *
  go_loopw [20] (fun i wr => ∃ t : Nat, t ≤ V.length ∧ i = .int .i64 t ∧ wr.ownsRow w.heap.size 3 1 (.slice (some ⟨g, 0, none⟩) n n) n (I (firstsL n (V.take t))) ∧ Below w.heap.size w wr) (fun i _ => V.length - (intOf i).toNat)
  case atStart => exact ⟨0, Nat.zero_le _, rfl, own1, hb2⟩
  case round =>
    obtain ⟨t, ht, rfl, own, hbel⟩ := hrel
    clear own1 hb2
    have hz := hbel.size
    by_cases htl : t < V.length
    · obtain ⟨b, o, a', c', rfl, hb, hcell, _, _, _, hrd⟩ := HR.out.at_ htl
      have hmem : V.getD t [] ∈ V := by rw [List.getD_eq_getElem?_getD, List.getElem?_eq_getElem htl]; exact List.getElem_mem htl
      have hperm := HP.out _ hmem
      have hpl : (V.getD t []).length = n := by have := hperm.length_eq; rwa [sides_len] at this
      have hsn : V.take (t + 1) = V.take t ++ [V.getD t []] := by
        rw [List.take_succ_eq_append_getElem htl, List.getD_eq_getElem?_getD, List.getElem?_eq_getElem htl]; rfl
      have hct : wr.cell? ⟨b, o + t, none⟩ = some (.slice a' n c') := by
        rw [(hbel.cell (by show b < _; omega)), hcell, hpl]
      rw [hpl] at hrd
      obtain ⟨b2, o2, rfl, hb2, hcell2⟩ := hrd.at_ (k := 0) (by omega)
      have hx := mem_sides.1 (hperm.mem_iff.1 (getD_mem (V.getD t []) 0 (by omega)))
      have hpos := pos_idx (hperm.nodup_iff.2 (sides_nodup n)) (k := 0) (by omega)
      have hc2 : wr.cell? ⟨b2, o2, none⟩ = some (.int .i64 ((V.getD t []).getD 0 0)) := by
        rw [(hbel.cell (by show b2 < _; omega))]; exact hcell2
      have HF : Hid (∀ x : Nat, x < n → fst1 (V.take (t + 1)) x = fst1 (V.take t) x + if (x : Int) = (V.getD t []).getD 0 0 then 1 else 0) := fun x hx2 => by
        rw [hsn, fst1_snoc]
        have hm2 : (x : Int) ∈ V.getD t [] := hperm.mem_iff.2 (mem_sides.2 ⟨by omega, by omega⟩)
        have hm3 : (V.getD t []).getD 0 0 ∈ V.getD t [] := getD_mem _ 0 (by omega)
        by_cases he : (x : Int) = (V.getD t []).getD 0 0
        · rw [if_pos he, he, hpos]; rfl
        · rw [if_neg he, if_neg (fun h0 => he (pos_inj (hperm.nodup_iff.2 (sides_nodup n)) hm2 hm3 (by rw [h0, hpos]; rfl)))]
      clear hsn hcell hrd hmem hperm hpl hcell2 hpos
      generalize (V.getD t []).getD 0 0 = x at *
      obtain ⟨k, rfl⟩ : ∃ k : Nat, x = k := ⟨x.toNat, by omega⟩
      have hkn : k < n := by omega
      have ck := own_cell own k hkn
      have fk := own.frozenAt k
      have hat : (firstsL n (V.take t)).getD k 0 = fst1 (V.take t) k := fnL_at n _ hkn
      rw [hat] at ck
      have hle := fst1_le (V.take t) k
      have hle2 : (V.take t).length ≤ 30 := by rw [List.length_take]; omega
      obtain ⟨s1, g1⟩ := own.stored k (.int .i64 (((fst1 (V.take t) k : Nat) : Int) + 1))
      have es : (I (firstsL n (V.take t))).set k (.int .i64 (((fst1 (V.take t) k : Nat) : Int) + 1)) = I (firstsL n (V.take (t + 1))) := by
        have e1 : (firstsL n (V.take t)).set k (((fst1 (V.take t) k : Nat) : Int) + 1) = firstsL n (V.take (t + 1)) := by
          refine (fnL_set n _ hkn _).trans (fnL_congr n (fun j hj => ?_))
          show (if (j : Int) = k then _ else _) = ((fst1 (V.take (t + 1)) j : Nat) : Int)
          rw [HF.out j hj]
          by_cases hjk : (j : Int) = k
          · rw [if_pos hjk, if_pos hjk, hjk]; simp
          · rw [if_neg hjk, if_neg hjk]; simp
        rw [← e1]; unfold I; rw [List.map_set]
      rw [es] at s1
      have hb5 := hbel.grown g1 hz (fun y hy => by injection hy with hy; have := (own.lt g rfl).1; omega)
      clear es g1 own hbel hat HF
      generalize fst1 (V.take t) k = f1 at *
      go_wp2
      go_roundw
      case rel => exact ⟨t + 1, by omega, by go_num, s1, hb5⟩
      case measure => simp [intOf]; omega
    · obtain rfl : t = V.length := by omega
      rw [List.take_of_length_le (Nat.le_refl _)] at own
      go_wp2
      go_ret2
      have hl : (firstsL n V).length = n := fnL_len n _
      refine ⟨_, rfl, ?_, hbel⟩
      rw [hl]
      exact own
theorem firsts_any (n : Nat) (a : Option Addr) (m c : Nat) (V : List (List Int)) (w : World) (B : Nat) (hB : B ≤ w.heap.size) (hr : RdR w B a m V) (hm : m ≤ 17592186044416) (hv : vchk n V = 0) :
    Calls Try.prog 86 #[.int .i64 n, .slice a m c] w (IntsOut (firstsL n V) w) := (firsts_own n a m c V w B hB hr hm hv).mono fun _ _ h => h.ints
end Go.Proofs.Ythcaipnlgbnfkaa

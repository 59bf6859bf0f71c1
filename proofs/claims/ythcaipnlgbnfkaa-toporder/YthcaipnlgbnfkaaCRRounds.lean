/-
  Package rules, its own small functions for the rounds: how often one is first among those left (firstsAmong), who goes next (weakest), who is left (lastRemaining).
-/
import Derived.Test.YthcaipnlgbnfkaaPureB
import Derived.Test.YthcaipnlgbnfkaaM12
import Derived.Test.YthcaipnlgbnfkaaM15
import Derived.Test.YthcaipnlgbnfkaaM6
import Derived.Test.YthcaipnlgbnfkaaPureA
import Derived.Test.YthcaipnlgbnfkaaM4
import Derived.Test.YthcaipnlgbnfkaaM3
namespace Go.Proofs.Ythcaipnlgbnfkaa
open Go.RowKit Fm
set_option linter.unusedVariables false

set_option maxHeartbeats 400000 in
set_option maxRecDepth 100000 in
theorem among1_any (x : Int) (left : List Int) (gl m cl g : Nat) (w : World) (B : Nat) (hr : Rd w B (some ⟨gl, 0, none⟩) m left) (hm : m ≤ 1000000) (hg : w.cell? ⟨g, 0, none⟩ = some (.slice (some ⟨gl, 0, none⟩) m cl)) :
    Calls Try.prog 132 #[.int .i64 x, .pointer (some ⟨g, 0, none⟩)] w fun e w' => e = .returned (.bool (decide (x ∈ left))) ∧ Below w.heap.size w w' := by
  have HR := Lib.hid (contains_any left x (some ⟨gl, 0, none⟩) m cl w B hr (by omega))
  clear hr
  generalize decide (x ∈ left) = r at *
  go_enter Try.func132, Try.ntmps132
  go_wp2_with fail
  refine HR.out.mono ?_
  rintro e w' ⟨rfl, rfl⟩
  clear hg HR
  go_wp2
  go_ret
  exact ⟨rfl, Below.refl _ w⟩

set_option maxHeartbeats 2000000 in
set_option maxRecDepth 100000 in
theorem among_any {n j : Nat} (h6 : n ≤ 6) (hj : j < n) (gl m cl : Nat) (left : List Int) (a : Option Addr) (c : Nat) (V : List (List Int)) (x : Int) (w : World) (hl : Rd w w.heap.size (some ⟨gl, 0, none⟩) m left) (hm : m ≤ 1000) (hlo : LeftOk n j left) (hr : RdR w w.heap.size a V.length V) (hV : V.length ≤ 30) (hp : ∀ p ∈ V, p.Perm (sides n)) :
    Calls Try.prog 122 #[.slice (some ⟨gl, 0, none⟩) m cl, .slice a V.length c, .int .i64 x] w fun e w' => e = .returned (.int .i64 ((tops V left x : Nat) : Int)) ∧ Below w.heap.size w w' := by
  have HP := Lib.hid hp
  have LO := Lib.hid hlo
  have hba : Below w.heap.size w (w.alloc (.cells #[.slice (some ⟨gl, 0, none⟩) m cl] 22)) := (Below.refl _ w).alloc (Nat.le_refl _) _
  have HL := Lib.hid (rd_ext hl hba)
  have HR := Lib.hid (rdr_ext hr hba)
  have HBA := Lib.hid hba
  have HBX : Hid ((w.alloc (.cells #[.slice (some ⟨gl, 0, none⟩) m cl] 22)).cell? ⟨w.heap.size, 0, none⟩ = some (.slice (some ⟨gl, 0, none⟩) m cl)) := by show _ = _; rw [World.cell?_alloc_new]; rfl
  have HGX : Hid (w.heap.size < (w.alloc (.cells #[.slice (some ⟨gl, 0, none⟩) m cl] 22)).heap.size) := by show _ < _; simp
  clear hp hlo hl hr hba
  obtain ⟨res, hres⟩ : ∃ res, tops V left x = res := ⟨_, rfl⟩
  rw [hres]
  have HRES := Lib.hid hres
  clear hres
  go_enter Try.func122, Try.ntmps122
  go_wp2_with fail
  generalize w.alloc (.cells #[.slice (some ⟨gl, 0, none⟩) m cl] 22) = w2 at *
  obtain ⟨g, hg⟩ : ∃ g, g = w.heap.size := ⟨_, rfl⟩
  rw [← hg] at HBX HGX ⊢
  clear hg
  go_loopw [7, 13] (fun kv tv wr => ∃ t : Nat, t ≤ V.length ∧ tv = .int .i64 t ∧ kv = .int .i64 ((tops (V.take t) left x : Nat) : Int) ∧ Below w2.heap.size w2 wr) (fun _ tv _ => V.length - (intOf tv).toNat)
  case atStart => exact ⟨0, Nat.zero_le _, rfl, by simp [tops], Below.refl _ w2⟩
  case round =>
    obtain ⟨t, ht, rfl, rfl, hbel⟩ := hrel
    by_cases htl : t < V.length
    · have hz := hbel.size
      obtain ⟨b, o, a', c', rfl, hb, hcell, _, _, _, hrd⟩ := HR.out.at_ htl
      have hmem : V.getD t [] ∈ V := by rw [List.getD_eq_getElem?_getD, List.getElem?_eq_getElem htl]; exact List.getElem_mem htl
      have hperm := HP.out _ hmem
      have hpl : (V.getD t []).length = n := by have := hperm.length_eq; rwa [sides_len] at this
      have hct : wr.cell? ⟨b, o + t, none⟩ = some (.slice a' n c') := by rw [(hbel.cell (by show b < _; omega)), hcell, hpl]
      rw [hpl] at hrd
      have RD := Lib.hid (rd_ext hrd hbel)
      have HTS := Lib.hid (tops_succ V left x htl)
      have hop := only_pos LO.out hj hperm
      have htb := tops_le (V.take t) left x
      have htb2 : (V.take t).length ≤ 30 := by rw [List.length_take]; omega
      have HPL := Lib.hid hpl
      have HNO : Hid (¬ ∀ y ∈ V.getD t [], decide (y ∈ left) = false) := fun hh => by
        have e : onlyIn left (V.getD t []) = [] := by
          unfold onlyIn
          rw [List.filter_eq_nil_iff]
          intro y hy
          rw [hh y hy]
          decide
        rw [e] at hop
        simp at hop
      clear hcell hrd hmem hperm hpl hop
      generalize V.getD t [] = p at *
      generalize tops (V.take t) left x = kk at *
      have hT : Tells 132 #[.pointer (some ⟨g, 0, none⟩)] p (fun y => decide (y ∈ left)) wr := fun y hy w6 hb6 => by
        have hb26 := hbel.trans (hb6.mono hz)
        exact among1_any y left gl m cl g w6 w6.heap.size (rd_ext HL.out hb26) (by omega) ((hb26.cell HGX.out).trans HBX.out)
      have HIX := Lib.hid (indexFuncI_any 132 (fun _ _ => rfl) #[.pointer (some ⟨g, 0, none⟩)] (fun y => decide (y ∈ left)) a' n c' p wr wr.heap.size (Nat.le_refl _) RD.out (by omega) hT)
      clear hT
      go_wp2_with fail
      refine HIX.out.mono ?_
      rintro e w4 ⟨r, rfl, _, hr2, hb4⟩
      obtain ⟨i, rfl, hin, hi1, hi2⟩ := hr2 HNO.out
      have HQ : Hid ((onlyIn left p).getD 0 0 = p.getD i 0) := only_first (by rw [HPL.out]; exact hin) hi1 hi2
      rw [HQ.out] at HTS
      have hb24 := hbel.trans (hb4.mono hz)
      obtain ⟨b2, o2, rfl, hlt2, hc2⟩ := (rd_ext RD.out hb4).at_ hin
      have hini : (i : Int) < (n : Int) := by omega
      clear HIX HNO HQ hi1 hi2 hr2 hb4 hbel hct
      generalize p.getD i 0 = q0 at *
      by_cases hq : q0 = x
      · have hqb : (q0 == x) = true := by simpa using hq
        rw [if_pos hq] at HTS
        clear hq
        go_wp2
        go_roundw
        case rel => exact ⟨t + 1, by omega, by go_num, by rw [HTS.out]; rfl, hb24⟩
        case measure => simp [intOf]; omega
      · have hqb : (q0 == x) = false := by simpa using hq
        rw [if_neg hq, Nat.add_zero] at HTS
        clear hq
        go_wp2
        go_roundw
        case rel => exact ⟨t + 1, by omega, by go_num, by rw [HTS.out]; rfl, hb24⟩
        case measure => simp [intOf]; omega
    · obtain rfl : t = V.length := by omega
      have e1 : V.take V.length = V := List.take_of_length_le (Nat.le_refl _)
      rw [e1, HRES.out]
      clear e1
      have hbe := ext_trans HBA.out hbel
      go_wp2
      go_ret
      exact ⟨rfl, hbe⟩

set_option maxHeartbeats 1000000 in
set_option maxRecDepth 100000 in
theorem weakest_any {n j : Nat} (h6 : n ≤ 6) (hj : j < n) (gl m cl : Nat) (left : List Int) (a : Option Addr) (c : Nat) (V : List (List Int)) (w : World) (hl : Rd w w.heap.size (some ⟨gl, 0, none⟩) m left) (hm : m ≤ 1000) (hlo : LeftOk n j left) (hr : RdR w w.heap.size a V.length V) (hV : V.length ≤ 30) (hp : ∀ p ∈ V, p.Perm (sides n)) :
    Calls Try.prog 101 #[.slice (some ⟨gl, 0, none⟩) m cl, .slice a V.length c] w fun e w' => e = .returned (.int .i64 (((wkTo V left m).1 : Nat) : Int)) ∧ Below w.heap.size w w' := by
  have HC : Hid (∀ x W, Below w.heap.size w W → Calls Try.prog 122 #[.slice (some ⟨gl, 0, none⟩) m cl, .slice a V.length c, .int .i64 x] W fun e w' => e = .returned (.int .i64 ((tops V left x : Nat) : Int)) ∧ Below W.heap.size W w') := fun x W hW => among_any h6 hj gl m cl left a c V x W (rd_ext hl hW) hm hlo (rdr_ext hr hW) hV hp
  have HL := Lib.hid hl
  clear hl hlo hr hp
  go_enter Try.func101, Try.ntmps101
  go_wp2_with fail
  go_loopw [5, 6, 14] (fun fv kv iv wr => ∃ i : Nat, i ≤ m ∧ iv = .int .i64 i ∧ fv = .int .i64 (((wkTo V left i).1 : Nat) : Int) ∧ kv = .int .i64 (wkTo V left i).2 ∧ Below w.heap.size w wr) (fun _ _ iv _ => m - (intOf iv).toNat)
  case atStart => exact ⟨0, Nat.zero_le _, rfl, rfl, rfl, Below.refl _ w⟩
  case round =>
    obtain ⟨i, hi, rfl, rfl, rfl, hbel⟩ := hrel
    by_cases him : i < m
    · obtain ⟨b, o, e, hb, hcell⟩ := (rd_ext HL.out hbel).at_ him
      injection e with e
      injection e with e1 e2
      subst e1; subst e2
      rw [Nat.zero_add] at hcell
      have HS : Hid (wkTo V left (i + 1) = if (tops V left (left.getD i 0) : Int) ≤ (wkTo V left i).2 then (i, (tops V left (left.getD i 0) : Int)) else wkTo V left i) := by show _ = _; rw [wkTo]
      have hbd := wk_bd V left i
      have htl := tops_le V left (left.getD i 0)
      have HCC := Lib.hid (HC.out (left.getD i 0) wr hbel)
      generalize wkTo V left i = oi at *
      generalize left.getD i 0 = x at *
      generalize tops V left x = k at *
      obtain ⟨o1, o2⟩ := oi
      simp only at hbd HS
      go_wp2_with fail
      refine HCC.out.mono ?_
      rintro e w1 ⟨rfl, hb1⟩
      have hb2 := ext_trans hbel hb1
      clear HCC hb1 hbel hcell
      by_cases hc : (k : Int) ≤ o2
      · rw [if_pos hc] at HS
        go_wp2
        go_roundw
        case rel => exact ⟨i + 1, by omega, by go_num, by rw [HS.out], by rw [HS.out], hb2⟩
        case measure => simp [intOf]; omega
      · rw [if_neg hc] at HS
        go_wp2
        go_roundw
        case rel => exact ⟨i + 1, by omega, by go_num, by rw [HS.out], by rw [HS.out], hb2⟩
        case measure => simp [intOf]; omega
    · obtain rfl : i = m := by omega
      go_wp2
      go_ret
      exact ⟨rfl, hbel⟩

def lenOf : Value → Nat
  | .slice _ n _ => n
  | _ => 0

set_option maxHeartbeats 2000000 in
set_option maxRecDepth 100000 in
theorem last_any {n : Nat} (h1 : 1 ≤ n) (h6 : n ≤ 6) (a : Option Addr) (c : Nat) (V : List (List Int)) (w : World) (hr : RdR w w.heap.size a V.length V) (hV : V.length ≤ 30) (hp : ∀ p ∈ V, p.Perm (sides n)) :
    Calls Try.prog 80 #[.int .i64 n, .slice a V.length c] w fun e w' => e = .returned (.int .i64 (lastOf n V)) ∧ Below w.heap.size w w' := by
  have HR := Lib.hid hr
  have HP := Lib.hid hp
  clear hr hp
  obtain ⟨res, hres⟩ : ∃ res, lastOf n V = res := ⟨_, rfl⟩
  rw [hres]
  have HRES := Lib.hid hres
  clear hres
  have hmk : ∀ W : World, (Instr.makeSlice 22 (.int .i64 n) (.int .i64 n)).run Try.prog W = .ok (.slice (some ⟨W.heap.size, 0, none⟩) n n) (W.alloc (.cells (zeros n) 3)) := make_ints n (by omega)
  have own0 := own_lit w 3 (List.replicate n 0) (zeros n) rfl (by unfold maxLen; simp; omega)
  rw [List.length_replicate] at own0
  have hz0 : List.replicate n (0 : Int) = fnL n (fun y => if y < ((0 : Nat) : Int) then y else 0) := by
    rw [zeroL]; exact fnL_congr n (fun j hj => by rw [if_neg (by omega)])
  rw [hz0] at own0
  have hb0 : Below w.heap.size w (w.alloc (.cells (zeros n) 3)) := (Below.refl _ w).alloc (Nat.le_refl _) _
  have HO0 := Lib.hid own0
  have HB0 := Lib.hid hb0
  clear hz0 own0 hb0
  go_enter Try.func80, Try.ntmps80
  go_wp2_with fail
  clear hmk
  generalize w.alloc (.cells (zeros n) 3) = w2 at *
  obtain ⟨g, hg⟩ : ∃ g, g = w.heap.size := ⟨_, rfl⟩
  have HO1 : Hid (w2.ownsRow w.heap.size 3 1 (.slice (some ⟨g, 0, none⟩) n n) n (I (fnL n (fun y => if y < ((0 : Nat) : Int) then y else 0)))) := by show World.ownsRow _ _ _ _ _ _ _; rw [hg]; exact HO0.out
  rw [← hg]
  clear HO0 hg
  go_loopw [12] (fun iv wr => ∃ k : Nat, k ≤ n ∧ iv = .int .i64 k ∧ wr.ownsRow w.heap.size 3 1 (.slice (some ⟨g, 0, none⟩) n n) n (I (fnL n (fun y => if y < (k : Int) then y else 0))) ∧ Below w.heap.size w wr) (fun iv _ => n - (intOf iv).toNat)
  case atStart => exact ⟨0, Nat.zero_le _, rfl, HO1.out, HB0.out⟩
  case round =>
    clear HO1 HB0
    obtain ⟨k, hk, rfl, own, hbel⟩ := hrel
    by_cases hkn : k < n
    · have ck := own_cell own k hkn
      have fk := own.frozenAt k
      obtain ⟨s1, g1⟩ := own.stored k (.int .i64 k)
      have es : (I (fnL n (fun y => if y < (k : Int) then y else 0))).set k (.int .i64 k) = I (fnL n (fun y => if y < ((k + 1 : Nat) : Int) then y else 0)) := by
        have e1 : (fnL n (fun y => if y < (k : Int) then y else 0)).set k k = fnL n (fun y => if y < ((k + 1 : Nat) : Int) then y else 0) := by
          refine (fnL_set n (fun y => if y < (k : Int) then y else 0) hkn k).trans (fnL_congr n (fun j hj => ?_))
          show (if (j : Int) = k then (k : Int) else if (j : Int) < k then (j : Int) else 0) = if (j : Int) < ((k + 1 : Nat) : Int) then (j : Int) else 0
          by_cases e : (j : Int) = k
          · rw [if_pos e, if_pos (by omega), e]
          · rw [if_neg e]
            by_cases e2 : (j : Int) < k
            · rw [if_pos e2, if_pos (by omega)]
            · rw [if_neg e2, if_neg (by omega)]
        rw [← e1]; unfold I; rw [List.map_set]
      rw [es] at s1
      have hbe := hbel.grown g1 hbel.size (fun y hy => by injection hy with hy; subst hy; exact (own.lt g rfl).1)
      clear es g1 own hbel
      generalize (fnL n (fun y => if y < (k : Int) then y else 0)).getD k 0 = ov at *
      go_wp2
      go_roundw
      case rel => exact ⟨k + 1, by omega, by go_num, s1, hbe⟩
      case measure => simp [intOf]; omega
    · obtain rfl : k = n := by omega
      have e0 : fnL k (fun y => if y < (k : Int) then y else 0) = leftTo V k 0 := by
        have e1 : fnL k (fun y => if y < (k : Int) then y else 0) = fnL k (fun y => y) := fnL_congr k (fun j hj => by rw [if_pos (by omega)])
        rw [e1]
        show _ = sides k
        unfold fnL
        simp
      rw [e0] at own
      clear e0
      have HO1 := Lib.hid own
      have HB0 := Lib.hid hbel
      clear own hbel
      obtain ⟨w3, rfl⟩ : ∃ w3, w3 = wr := ⟨_, rfl⟩
      go_wp2_with fail
      go_loopw [5] (fun lv wr => ∃ j : Nat, j ≤ k - 1 ∧ lv = .slice (some ⟨g, 0, none⟩) (k - j) k ∧ wr.ownsRow w.heap.size 3 1 (.slice (some ⟨g, 0, none⟩) (k - j) k) (k - j) (I (leftTo V k j)) ∧ Below w.heap.size w wr) (fun lv _ => lenOf lv)
      case atStart => exact ⟨0, Nat.zero_le _, rfl, HO1.out, HB0.out⟩
      case round =>
        clear HO1 HB0
        obtain ⟨j, hj, rfl, own, hbel⟩ := hrel
        have LO := Lib.hid (left_ok V k h1 j hj)
        by_cases hmore : j < k - 1
        · have hgt : (1 : Int) < (((k - j : Nat) : Nat) : Int) := by omega
          have LE := Lib.hid (left_erase V k h1 hmore)
          have HW := Lib.hid (weakest_any h6 (by omega : j < k) g (k - j) k (leftTo V k j) a c V wr (Rd.of_own own) (by omega) LO.out (rdr_ext HR.out hbel) hV HP.out)
          have HLX : Hid (k - (j + 1) = k - j - 1) := by show _ = _; omega
          have hik := LE.out.1
          generalize (wkTo V (leftTo V k j) (k - j)).1 = ix at *
          obtain ⟨nl, hnl⟩ : ∃ nl, k - j = nl := ⟨_, rfl⟩
          rw [hnl] at own HW HLX LE hik hgt ⊢
          have HNL := Lib.hid hnl
          have HO := Lib.hid own
          clear hnl own
          have hnl6 : nl ≤ 6 := by have := HNL.out; omega
          go_wp2_with fail
          refine HW.out.mono ?_
          rintro e w4 ⟨rfl, hb4⟩
          have HD := Lib.hid (delete_own w.heap.size g nl k ix (leftTo V k j) w4 (own_below HO.out hb4 (Nat.le_refl _)) hik)
          rw [LE.out.2] at HD
          have hb04 := ext_trans hbel hb4
          have hgw := (HO.out.lt g rfl).1
          clear HW LE hb4 hbel
          go_wp2_with fail
          refine HD.out.mono ?_
          rintro e w5 ⟨rfl, o5, gr5⟩
          have hb05 := hb04.grown gr5 hb04.size (fun y hy => by injection hy with hy; omega)
          clear HD gr5 hb04
          go_wp2
          go_roundw
          case rel => exact ⟨j + 1, by omega, by rw [HLX.out], by rw [HLX.out]; exact o5, hb05⟩
          case measure => show nl - 1 < nl; omega
        · obtain rfl : j = k - 1 := by omega
          have hone : k - (k - 1) = 1 := by omega
          rw [hone] at own ⊢
          have c0 := own_cell own 0 (by omega)
          have HLO : Hid ((leftTo V k (k - 1)).getD 0 0 = res) := HRES.out
          rw [HLO.out] at c0
          clear own HLO LO
          go_wp2
          go_ret
          exact ⟨rfl, hbel⟩
end Go.Proofs.Ythcaipnlgbnfkaa

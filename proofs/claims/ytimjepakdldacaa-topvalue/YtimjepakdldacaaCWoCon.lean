/-
  Package worth: contribute and Row: what they return and what they write; nothing else is written.
-/
import Derived.Test.YtimjepakdldacaaCWoBase
import Derived.Test.YtimjepakdldacaaM17
import Derived.Test.YtimjepakdldacaaPush
import Derived.BigRegion
import Derived.RegionTactic
namespace Go.Proofs.Ytimjepakdldacaa
open Go.RowKit Fm
set_option linter.unusedVariables false

theorem wo_or : ∀ S : Nat, S < 64 → ∀ x : Nat, x < 6 → S.testBit x = false → bits BinOp.or IntKind.i64 (S : Int) ((2 ^ x : Nat) : Int) = ((S + 2 ^ x : Nat) : Int) := by decide +kernel
/-- F, and what the first k of p add. -/
def coL (n : Nat) (F : Int → Int) (V p : List Int) (k : Nat) : List Int := fnL n (fun y => F y + if pos p y < k then rowG (val V) n p y else 0)
theorem coL_zero {n : Nat} (F : Int → Int) (V : List Int) {p : List Int} (hp : p.Perm (sides n)) : fnL n F = coL n F V p 0 :=
  fnL_congr n (fun j hj => by
    have := pos_range hp hj
    rw [if_neg (by omega)]
    omega)
theorem coL_end {n : Nat} (F : Int → Int) {V p : List Int} (hp : p.Perm (sides n)) : coL n F V p n = fnL n (fun y => F y + rowG (val V) n p y) := fnL_congr n (fun j hj => by
  have := pos_range hp hj
  rw [if_pos (by omega)])
theorem coL_at {n : Nat} (F : Int → Int) {V p : List Int} (hp : p.Perm (sides n)) {k x : Nat} (hk : k < n) (hxn : x < n) (hx : p.getD k 0 = x) : (coL n F V p k).getD x 0 = F x := by
  have hpx : pos p (x : Int) = k := by rw [← hx]; exact pos_idx (perm_nodup hp) (by rw [perm_len hp]; exact hk)
  unfold coL
  rw [fnL_at n _ hxn, if_neg (by omega)]
  omega
theorem coL_set {n : Nat} (F : Int → Int) {V p : List Int} (hp : p.Perm (sides n)) {k x : Nat} (hk : k < n) (hxn : x < n) (hx : p.getD k 0 = x) : (coL n F V p k).set x (F x + rowG (val V) n p x) = coL n F V p (k + 1) := by
  have hnd := perm_nodup hp
  have hpx : pos p (x : Int) = k := by rw [← hx]; exact pos_idx hnd (by rw [perm_len hp]; exact hk)
  unfold coL
  rw [fnL_set n _ hxn]
  refine fnL_congr n (fun j hj => ?_)
  by_cases e : (j : Int) = x
  · rw [if_pos e, e, if_pos (by omega)]
  · rw [if_neg e]
    have hne : pos p (j : Int) ≠ k := fun h => e (pos_inj hnd (hp.mem_iff.2 (mem_sides.2 ⟨by omega, by omega⟩)) (hp.mem_iff.2 (mem_sides.2 ⟨by omega, by omega⟩)) (by rw [h, hpx]))
    by_cases q : pos p (j : Int) < k
    · rw [if_pos q, if_pos (by omega)]
    · rw [if_neg q, if_neg (by omega)]

/-- What contribute leaves. -/
def ConOut (B g : Nat) (v : Value) (n : Nat) (l : List Int) (w : World) (e : Ending) (w' : World) : Prop := (∃ u, e = .returned u) ∧ w'.ownsRow B 3 1 v n (I l) ∧ w.grownBy w' (some g)

set_option maxHeartbeats 4000000 in
set_option maxRecDepth 100000 in
theorem woCon_any {n N : Nat} {V p : List Int} (g : Gm n V) (hN : 2 ^ n = N) (hp : p.Perm (sides n)) (F : Int → Int) (hF : ∀ x, -2000000000 ≤ F x ∧ F x ≤ 2000000000) (a ap : Option Addr) (c cp cs B b : Nat) (w : World) (hr : Rd w b a N V) (hrp : Rd w b ap n p)
    (hown : w.ownsRow B 3 1 (.slice (some ⟨b, 0, none⟩) n cs) n (I (fnL n F))) :
    Calls Try.prog 65 #[.slice a N c, .slice ap n cp, .slice (some ⟨b, 0, none⟩) n cs] w (ConOut B b (.slice (some ⟨b, 0, none⟩) n cs) n (fnL n (fun y => F y + rowG (val V) n p y)) w) := by
  have h1 := g.pos
  have h6 := g.le
  have hN64 : N ≤ 64 := by rw [← hN]; exact pow6 h6
  have HN1 : 1 ≤ N := by rw [← hN]; exact pow1 n
  have hbw : b < w.heap.size := (hown.lt b rfl).2
  have HST : Hid (∀ k x : Nat, k < n → x < n → p.getD k 0 = x → (coL n F V p k).set x (F x + rowG (val V) n p x) = coL n F V p (k + 1)) := fun k x hk hx he => coL_set F hp hk hx he
  have HCA : Hid (∀ k x : Nat, k < n → x < n → p.getD k 0 = x → (coL n F V p k).getD x 0 = F x) := fun k x hk hx he => coL_at F hp hk hx he
  have HEN := Lib.hid (coL_end F (V := V) hp)
  have HAT : Hid (∀ k, k < n → ∃ x : Nat, p.getD k 0 = x ∧ x < n) := fun k hk => at_nat hp hk
  have HPS : Hid (∀ k, k ≤ n → pS p k < N) := fun k hk => by rw [← hN]; exact (pS_all hp k hk).1
  have HSP : Hid (∀ k x : Nat, k < n → p.getD k 0 = x → pS p (k + 1) = pS p k + 2 ^ x ∧ rowG (val V) n p x = val V (pS p (k + 1)) - val V (pS p k)) := fun k x hk hx => ⟨pS_step hp hk hx, by rw [← hx]; exact row_at hp hk⟩
  have HTB : Hid (∀ k x : Nat, k < n → p.getD k 0 = x → (pS p k).testBit x = false) := fun k x hk hx => (step_bits hp hk hx).1
  have HVB : Hid (∀ S, -1000000 ≤ val V S ∧ val V S ≤ 1000000) := g.val_bd
  have HF := Lib.hid hF
  obtain ⟨bv, ov, rfl, hbv, hcv⟩ := hr.2 (by omega)
  have HCV : Hid (∀ j, j < N → w.cell? ⟨bv, ov + j, none⟩ = some (.int .i64 (val V j))) := hcv
  have HRP := Lib.hid hrp
  rw [coL_zero F V hp] at hown
  have hps0 := pS_zero p
  have HP0 := Lib.hid hps0
  rw [← HEN.out]
  clear hr hrp g hN hp hcv hF hps0
  go_enter Try.func65, Try.ntmps65
  go_wp2_with fail
  go_loopw [6, 12] (fun bf iv wr => ∃ k : Nat, k ≤ n ∧ iv = .int .i64 k ∧ bf = .int .i64 (pS p k) ∧ wr.ownsRow B 3 1 (.slice (some ⟨b, 0, none⟩) n cs) n (I (coL n F V p k)) ∧ w.grownBy wr (some b)) (fun _ iv _ => n - (intOf iv).toNat)
  case atStart => exact ⟨0, Nat.zero_le _, rfl, by rw [HP0.out]; rfl, hown, grown_refl _ _⟩
  case round =>
    obtain ⟨k, hk, rfl, rfl, own, hgr⟩ := hrel
    clear hown
    by_cases hkn : k < n
    · obtain ⟨x, hx, hxn⟩ := HAT.out k hkn
      obtain ⟨bp, op, rfl, hbp, hcell⟩ := HRP.out.at_ hkn
      rw [hx] at hcell
      have hck : wr.cell? ⟨bp, op + k, none⟩ = some (.int .i64 (x : Int)) := (hgr.cell_far _ (by show bp < _; omega) (by intro e; injection e with e; exact absurd e (by show ¬ bp = b; omega))).trans hcell
      obtain ⟨e1, e2⟩ := HSP.out k x hkn hx
      have p1 := HPS.out k hk
      have p2 := HPS.out (k + 1) (by omega)
      have hst := HST.out k x hkn hxn hx
      have hca := HCA.out k x hkn hxn hx
      have hor := wo_or (pS p k) (by omega) x (by omega) (HTB.out k x hkn hx)
      rw [e2] at hst
      have r1 : wr.cell? ⟨bv, ov + pS p k, none⟩ = some (.int .i64 (val V (pS p k))) := (hgr.cell_far _ (by show bv < _; omega) (by intro e; injection e with e; exact absurd e (by show ¬ bv = b; omega))).trans (HCV.out _ p1)
      have r2 : wr.cell? ⟨bv, ov + pS p (k + 1), none⟩ = some (.int .i64 (val V (pS p (k + 1)))) := (hgr.cell_far _ (by show bv < _; omega) (by intro e; injection e with e; exact absurd e (by show ¬ bv = b; omega))).trans (HCV.out _ p2)
      have v1 := HVB.out (pS p k)
      have v2 := HVB.out (pS p (k + 1))
      have hfx := HF.out (x : Int)
      have hpw := wo_pw (show x ≤ 6 by omega)
      have ck := own_cell own x hxn
      rw [hca] at ck
      obtain ⟨X2, hX2⟩ : ∃ X2 : Nat, 2 ^ x = X2 := ⟨_, rfl⟩
      rw [hX2] at hpw e1 hor
      rw [← e1] at hor
      generalize F (x : Int) = fx at *
      generalize val V (pS p k) = y1 at *
      generalize val V (pS p (k + 1)) = y2 at *
      obtain ⟨S2, hS2⟩ : ∃ S2 : Nat, pS p (k + 1) = S2 := ⟨_, rfl⟩
      have HS2 := Lib.hid hS2
      rw [hS2] at r2 p2 hor
      clear hcell hx e1 e2 hS2 hX2 hca
      generalize pS p k = S1 at *
      have z2 : (S1 : Int) < (N : Int) := by omega
      have z3 : (S2 : Int) < (N : Int) := by omega
      have fk := own.frozenAt x
      obtain ⟨s1, g1⟩ := own.stored x (.int .i64 (fx + (y2 - y1)))
      have es : (I (coL n F V p k)).set x (.int .i64 (fx + (y2 - y1))) = I (coL n F V p (k + 1)) := by
        rw [← hst]; unfold I; rw [List.map_set]
      rw [es] at s1
      have hg5 := grown_trans hgr g1
      clear es g1 hst own hgr
      go_wp2_with fail
      go_region
      go_wp2
      go_roundw
      case rel => exact ⟨k + 1, by omega, by go_num, by rw [HS2.out], s1, ⟨hg5.os, hg5.tape, hg5.output, hg5.size, hg5.block⟩⟩
      case measure => simp [intOf]; omega
    · obtain rfl : k = n := by omega
      go_wp2
      go_end0
      exact ⟨⟨_, rfl⟩, own, hgr⟩

theorem chk_three {n : Int} {row : List Int} (h1 : 1 ≤ n) (h6 : n ≤ 6) (h : chk n row ≠ 0) : chk n row = 3 := by
  by_cases hl : (row.length : Int) = n
  · by_cases hb : isOrd n row
    · exact absurd (chk_ok (by omega) hl hb) h
    · exact chk_bad (by omega) hl hb
  · exact chk_len (by omega) hl



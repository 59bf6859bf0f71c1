/-
  plumelaw.DuelVotes returns true, for every int and every slice of slices of ints, if package duel keeps its contracts; nothing that was there is written.
-/
import Derived.Test.YtbmefccljbndeaaDuelP
import Derived.Test.YtbmefccljbndeaaLits
import Derived.Test.YtbmefccljbndeaaCDelF
import Derived.Test.YtbmefccljbndeaaCConcat
import Derived.Test.YtbmefccljbndeaaCSides
import Derived.Test.YtbmefccljbndeaaCReverse
import Derived.Test.YtbmefccljbndeaaPushS
import Derived.Test.YtbmefccljbndeaaCRows
import Derived.BigQuiet
import Derived.Deep.QuietTactic
namespace Go.Proofs.Ytbmefccljbndeaa
open Go.RowKit Fm
set_option linter.unusedVariables false

theorem mcg_succ (n : Nat) (L : List (List Int)) {k : Nat} (h : k < L.length) : mcg n (L.take (k + 1)) = (mcg n (L.take k) ++ [L.getD k [] ++ others n (L.getD k [])]) ++ [(others n (L.getD k [])).reverse ++ L.getD k []] := by
  unfold mcg
  rw [List.take_succ_eq_append_getElem h, List.flatMap_append, List.getD_eq_getElem?_getD, List.getElem?_eq_getElem h]
  simp
theorem mcg_len (n : Nat) (L : List (List Int)) : (mcg n L).length = 2 * L.length := by
  unfold mcg
  induction L with
  | nil => rfl
  | cons b L ih => simp [List.flatMap_cons] at ih ⊢; omega
theorem others_len (n : Nat) (b : List Int) : (others n b).length ≤ n := by
  unfold others; exact Nat.le_trans (List.length_filter_le _ _) (by rw [sides_len]; exact Nat.le_refl _)
theorem mcg_rows {n : Nat} {L : List (List Int)} (hL : ∀ b ∈ L, b.length = 2) {l : List Int} (h : l ∈ mcg n L) : l.length ≤ n + 2 := by
  unfold mcg at h
  rw [List.mem_flatMap] at h
  obtain ⟨b, hb, hl⟩ := h
  have h1 := hL b hb
  have h2 := others_len n b
  simp at hl
  rcases hl with rfl | rfl <;> simp <;> omega

/-- One of the pair. -/
def ofPair (b : List Int) (x : Int) : Bool := x == b.getD 0 0 || x == b.getD 1 0
theorem duelVotes1_any (x : Int) (b : List Int) (a' : Option Addr) (c' g0 : Nat) (w : World) (B : Nat) (hr : Rd w B a' 2 b) (hg : w.cell? ⟨g0, 0, none⟩ = some (.slice a' 2 c')) :
    Calls Try.prog 20 #[.int .i64 x, .pointer (some ⟨g0, 0, none⟩)] w fun e w' => e = .returned (.bool (ofPair b x)) ∧ Below w.heap.size w w' := by
  obtain ⟨bb, o, rfl, hb, hc⟩ := hr.2 (by omega)
  have c0 := hc 0 (by omega)
  have c1 := hc 1 (by omega)
  clear hc hr
  rw [Nat.add_zero] at c0
  by_cases h0 : x = b.getD 0 0
  · have HP : Hid (ofPair b x = true) := by show _ = _; unfold ofPair; rw [h0]; simp
    have hb0 : (x == b.getD 0 0) = true := by rw [h0]; simp
    clear h0
    generalize b.getD 0 0 = y0 at *
    generalize b.getD 1 0 = y1 at *
    go_enter Try.func20, Try.ntmps20
    go_wp2_with fail
    first
      | (go_ret; exact ⟨by rw [HP.out]; rfl, Below.refl _ w⟩)
      | (go_quiet (fail); go_wp2; go_ret; exact ⟨by rw [HP.out]; rfl, below_drewN (Below.refl _ w) _⟩)
  · have hb0 : (x == b.getD 0 0) = false := by simpa using h0
    obtain ⟨r, hr⟩ : ∃ r, (x == b.getD 1 0) = r := ⟨_, rfl⟩
    have HP : Hid (ofPair b x = r) := by show _ = _; unfold ofPair; rw [hb0, hr]; simp
    clear h0
    generalize b.getD 0 0 = y0 at *
    generalize b.getD 1 0 = y1 at *
    go_enter Try.func20, Try.ntmps20
    go_wp2_with fail
    first
      | (go_ret; exact ⟨by rw [HP.out]; rfl, Below.refl _ w⟩)
      | (go_quiet (fail); go_wp2; go_ret; exact ⟨by rw [HP.out]; rfl, below_drewN (Below.refl _ w) _⟩)

theorem lit_two (w : World) (t : TypeId) (p q : List Int) (a1 a2 : Option Addr) (n1 c1 n2 c2 : Nat) (h1 : Rd w w.heap.size a1 n1 p) (h1c : n1 ≤ c1) (h1n : a1 = none → c1 = 0) (h1m : c1 ≤ maxLen) (h2 : Rd w w.heap.size a2 n2 q) (h2c : n2 ≤ c2) (h2n : a2 = none → c2 = 0) (h2m : c2 ≤ maxLen) :
    RdR (w.alloc (.cells #[.slice a1 n1 c1, .slice a2 n2 c2] t)) (w.alloc (.cells #[.slice a1 n1 c1, .slice a2 n2 c2] t)).heap.size (some ⟨w.heap.size, 0, none⟩) 2 [p, q] := by
  obtain rfl := h1.1
  obtain rfl := h2.1
  have h := rdr_lit w t [p, q] #[.slice a1 p.length c1, .slice a2 q.length c2] rfl (fun j hj => by
    match j, hj with
    | 0, _ => exact ⟨a1, c1, rfl, h1c, h1n, h1m, h1⟩
    | 1, _ => exact ⟨a2, c2, rfl, h2c, h2n, h2m, h2⟩)
  exact h.more (by simp)

/-- What a round of the law holds: the ballots so far, the boxed pair, the others. -/
structure Hold (B0 : Nat) (Wb w : World) (v : Value) (m : Nat) (vs : List Value) (T : List (List Int)) (g0 : Nat) (bx : Value) (g2 mr cap2 : Nat) (rest : List Int) : Prop where
  base : B0 ≤ w.heap.size
  row : w.ownsRow B0 23 1 v m vs
  els : Elems w B0 3 vs T
  box : w.cell? ⟨g0, 0, none⟩ = some bx
  boxlt : g0 < w.heap.size
  boxne : v.ownBlock ≠ some g0
  rst : w.ownsRow B0 3 1 (.slice (some ⟨g2, 0, none⟩) mr cap2) mr (I rest)
  g2ne : g2 ≠ g0
  sep : ∀ (j : Nat) (u : Value), vs[j]? = some u → u.ownBlock ≠ some g2
  bel : Below B0 Wb w
section
variable {B0 : Nat} {Wb w w' : World} {v : Value} {m : Nat} {vs : List Value} {T : List (List Int)} {g0 : Nat} {bx : Value} {g2 mr cap2 : Nat} {rest : List Int}
theorem Hold.ext (h : Hold B0 Wb w v m vs T g0 bx g2 mr cap2 rest) (hb : Below w.heap.size w w') : Hold B0 Wb w' v m vs T g0 bx g2 mr cap2 rest :=
  ⟨Nat.le_trans h.base hb.size, own_below h.row hb (Nat.le_refl _), h.els.below hb (Nat.le_refl _), (hb.cell h.boxlt).trans h.box, Nat.lt_of_lt_of_le h.boxlt hb.size, h.boxne, own_below h.rst hb (Nat.le_refl _), h.g2ne, h.sep, h.bel.trans (hb.mono h.base)⟩
theorem Hold.turn (h : Hold B0 Wb w v m vs T g0 bx g2 mr cap2 rest) (gr : w.grownBy w' (some g2)) {mr' : Nat} {rest' : List Int} (o : w'.ownsRow B0 3 1 (.slice (some ⟨g2, 0, none⟩) mr' cap2) mr' (I rest')) : Hold B0 Wb w' v m vs T g0 bx g2 mr' cap2 rest' := by
  refine ⟨Nat.le_trans h.base gr.size, h.row.kept gr (own_far h.rst h.row (by decide)), ⟨h.els.1, fun j u hj => (h.els.2 j u hj).kept gr (.inr (h.sep j u hj))⟩, ?_, Nat.lt_of_lt_of_le h.boxlt gr.size, h.boxne, o, h.g2ne, h.sep, h.bel.grown gr h.base (fun y hy => by injection hy with hy; subst hy; exact (h.rst.lt g2 rfl).1)⟩
  rw [World.cell?_of_block (gr.block g0 h.boxlt (fun he => h.g2ne (by injection he with he; exact he.symm)))]
  exact h.box
theorem Hold.push (h : Hold B0 Wb w v m vs T g0 bx g2 mr cap2 rest) (gr : w.grownBy w' v.ownBlock) {g cap : Nat} {u : Value} (row' : w'.ownsRow B0 23 1 (.slice (some ⟨g, 0, none⟩) (m + 1) cap) (m + 1) (vs ++ [u]))
    (hg : v.ownBlock = some g ∨ w.heap.size < g) {l : List Int} (ou : w.ownsRow B0 3 1 u l.length (I l)) (hu : u.ownBlock ≠ some g2) : Hold B0 Wb w' (.slice (some ⟨g, 0, none⟩) (m + 1) cap) (m + 1) (vs ++ [u]) (T ++ [l]) g0 bx g2 mr cap2 rest := by
  have hkind : ∀ y, Value.ownBlock v = some y → y < B0 ∨ ∃ c t, w.heap[y]? = some (.cells c t (0, 0)) ∧ t ≠ 3 := fun y hy => by
    obtain ⟨c, hc⟩ := own_kind h.row hy
    exact .inr ⟨c, _, hc, by decide⟩
  refine ⟨Nat.le_trans h.base gr.size, row', (h.els.kept gr hkind).snoc (ou.kept gr (own_far h.row ou (by decide))), ?_, Nat.lt_of_lt_of_le h.boxlt gr.size, fun he => ?_, h.rst.kept gr (own_far h.row h.rst (by decide)), h.g2ne, fun j x hj => ?_, h.bel.grown gr h.base (fun y hy => (h.row.lt y hy).1)⟩
  · rw [World.cell?_of_block (gr.block g0 h.boxlt (fun he => h.boxne he.symm))]
    exact h.box
  · have he : g = g0 := by simpa [Value.ownBlock] using he
    subst he
    rcases hg with h1 | h1
    · exact h.boxne h1
    · have := h.boxlt; omega
  · rcases Nat.lt_or_ge j vs.length with hjl | hjl
    · rw [List.getElem?_append_left hjl] at hj; exact h.sep j x hj
    · rw [List.getElem?_append_right hjl] at hj
      have hx : x = u := by
        rcases Nat.eq_zero_or_pos (j - vs.length) with h0 | h0
        · rw [h0] at hj; simpa using hj.symm
        · rw [List.getElem?_eq_none (by simp; omega)] at hj; cases hj
      subst hx; exact hu
end

/-- What the law's own look at the pairs has found. -/
def wantOf (n : Int) (L : List (List Int)) (r : Int) : Prop := (r = 0 ∧ ∀ b ∈ L, okPair n b) ∨ (r = 3 ∧ ¬ ∀ b ∈ L, okPair n b)

set_option maxHeartbeats 4000000 in
set_option maxRecDepth 100000 in
theorem duelVotes_is (dVE : DVotesE) (dV : DVotes) (n0 : Int) (hn0 : -9223372036854775808 ≤ n0) (hn1 : n0 ≤ 9223372036854775807) (v : Value) (L : List (List Int)) {w : World} (f : IsRows w v L) :
    Calls Try.prog 4 #[.int .i64 n0, v] w fun e w' => e = .returned (.bool true) ∧ Below w.heap.size w w' := by
  obtain ⟨a, c, rfl, hr, hall, hlc, _, hcm, h24⟩ := f
  have TI : Hid (TabIn w a L.length L) := ⟨w.heap.size, Nat.le_refl _, hr, by omega, fun l hl => by have := (hall l hl).2; omega⟩
  have HR := Lib.hid hr
  have DVE : Hid DVotesE := dVE
  have DV : Hid DVotes := dV
  have hm : L.length ≤ 17592186044416 := by omega
  obtain ⟨m, hmL⟩ : ∃ m, L.length = m := ⟨_, rfl⟩
  have HML := Lib.hid hmL
  rw [hmL] at TI HR hm ⊢
  clear hr hall dVE dV h24 hlc hmL
  by_cases hrng : n0 < 1 ∨ 6 < n0
  · have hb : bchk n0 L = 1 := by unfold bchk; rw [if_pos hrng]
    have Q := Lib.hid (DVE.out n0 a m c L w TI.out (by rw [hb]; decide))
    rw [hb] at Q
    clear hb DVE DV
    rcases hrng with h1 | h6
    · go_enter Try.func4, Try.ntmps4
      go_wp2_with fail
      refine Q.out.mono ?_
      rintro e w1 ⟨a1, c1, rfl, hb1⟩
      clear Q
      go_wp2
      go_ret
      exact ⟨rfl, hb1⟩
    · have h1 : ¬ n0 < 1 := by omega
      go_enter Try.func4, Try.ntmps4
      go_wp2_with fail
      refine Q.out.mono ?_
      rintro e w1 ⟨a1, c1, rfl, hb1⟩
      clear Q
      go_wp2
      go_ret
      exact ⟨rfl, hb1⟩
  · obtain ⟨n, rfl⟩ : ∃ n : Nat, n0 = n := ⟨n0.toNat, by omega⟩
    have h1 : ¬ (n : Int) < 1 := by omega
    have h6 : ¬ 6 < (n : Int) := by omega
    by_cases hlarge : 15 < m
    · have hb : bchk n L = 2 := by unfold bchk; rw [if_neg hrng, if_pos (by rw [HML.out]; exact hlarge)]
      have Q := Lib.hid (DVE.out n a m c L w TI.out (by rw [hb]; decide))
      rw [hb] at Q
      clear hb DVE DV hrng
      go_enter Try.func4, Try.ntmps4
      go_wp2_with fail
      refine Q.out.mono ?_
      rintro e w1 ⟨a1, c1, rfl, hb1⟩
      clear Q
      go_wp2
      go_ret
      exact ⟨rfl, hb1⟩
    · have hlg : ¬ (15 : Int) < (m : Int) := by omega
      have HBG : Hid ((∀ b ∈ L, okPair n b) → bchk n L = 0) := fun h => by unfold bchk; rw [if_neg hrng, if_neg (by rw [HML.out]; exact hlarge), if_pos h]
      have HBB : Hid ((¬ ∀ b ∈ L, okPair n b) → bchk n L = 3) := fun h => by unfold bchk; rw [if_neg hrng, if_neg (by rw [HML.out]; exact hlarge), if_neg h]
      -- the call, either way
      have Q : Hid (Calls Try.prog 17 #[.int .i64 n, .slice a m c] w fun e w' => ∃ a1 l1 c1 r, e = .returned (.tuple #[.slice a1 l1 c1, .int .i64 r]) ∧ wantOf n L r ∧ Below w.heap.size w w' ∧ (r = 0 → l1 = (mcg n L).length ∧ RdR w' w'.heap.size a1 l1 (mcg n L)) ∧ (r ≠ 0 → l1 = 0)) := by
        by_cases hok : ∀ b ∈ L, okPair n b
        · refine (DV.out n a m c L w TI.out (HBG.out hok)).mono ?_
          rintro e w1 ⟨a1, c1, rfl, _, _, r1, hb1⟩
          exact ⟨a1, _, c1, 0, rfl, .inl ⟨rfl, hok⟩, hb1, fun _ => ⟨rfl, r1⟩, fun h => absurd rfl h⟩
        · have h3 := HBB.out hok
          have q := DVE.out n a m c L w TI.out (by rw [h3]; decide)
          rw [h3] at q
          refine q.mono ?_
          rintro e w1 ⟨a1, c1, rfl, hb1⟩
          exact ⟨a1, _, c1, 3, rfl, .inr ⟨rfl, hok⟩, hb1, (fun h => by cases h), fun _ => rfl⟩
      clear HBG HBB DVE DV hrng TI
      go_enter Try.func4, Try.ntmps4
      go_wp2_with fail
      refine Q.out.mono ?_
      rintro e w1 ⟨a1, l1, c1, r1, rfl, hwant, hb1, hgood, hbad⟩
      have HWANT := Lib.hid hwant
      have HGD := Lib.hid hgood
      have HBD := Lib.hid hbad
      have HB1 := Lib.hid hb1
      have RW1 := Lib.hid (HR.out.below hb1 (Nat.le_refl _))
      clear Q hwant hgood hbad hb1
      go_wp2_with fail
      go_loopw [7, 22] (fun wv iv wr => ∃ (k j : Nat) (r : Int), k ≤ m ∧ iv = .int .i64 k ∧ wv = .int .i64 r ∧ wantOf n (L.take k) r ∧ wr = w1.drewN j) (fun _ iv _ => m - (intOf iv).toNat)
      case atStart => exact ⟨0, 0, 0, Nat.zero_le _, rfl, rfl, .inl ⟨rfl, fun b hb => by simp at hb⟩, rfl⟩
      case round =>
        obtain ⟨k, j, r, hk, rfl, rfl, hwn, hwr⟩ := hrel
        have HWR := Lib.hid hwr
        by_cases hkm : k < m
        · obtain ⟨b, o, a', c', rfl, hb, hcell, _, _, _, hrd⟩ := RW1.out.at_ hkm
          have hkl : k < L.length := by rw [HML.out]; exact hkm
          have hct : wr.cell? ⟨b, o + k, none⟩ = some (.slice a' (L.getD k []).length c') := by rw [hwr]; exact hcell
          have hrd2 : Rd wr w.heap.size a' (L.getD k []).length (L.getD k []) := by rw [hwr]; exact hrd.drewN j
          have hsn : L.take (k + 1) = L.take k ++ [L.getD k []] := by
            rw [List.take_succ_eq_append_getElem hkl, List.getD_eq_getElem?_getD, List.getElem?_eq_getElem hkl]; rfl
          have HBAD : Hid (¬ okPair n (L.getD k []) → wantOf n (L.take (k + 1)) 3) := fun h => .inr ⟨rfl, fun hh => h (hh _ (by rw [hsn]; simp))⟩
          have HGOOD : Hid (okPair n (L.getD k []) → wantOf n (L.take (k + 1)) r) := fun h => by
            rcases hwn with ⟨h1, h2⟩ | ⟨h1, h2⟩
            · exact .inl ⟨h1, fun q hq => by
                rw [hsn, List.mem_append] at hq
                rcases hq with hq | hq
                · exact h2 q hq
                · rw [List.mem_singleton] at hq; subst hq; exact h⟩
            · exact .inr ⟨h1, fun hh => h2 (fun q hq => hh q (by rw [hsn]; exact List.mem_append.2 (.inl hq)))⟩
          clear hwr hwn hcell hrd hsn hkl
          generalize L.getD k [] = p at *
          by_cases hl2 : p.length = 2
          · rw [hl2] at hct hrd2
            obtain ⟨b2, o2, rfl, hbb2, hcc⟩ := hrd2.2 (by omega)
            have c0 := hcc 0 (by omega)
            have c1' := hcc 1 (by omega)
            rw [Nat.add_zero] at c0
            have HOK : Hid (okPair n p ↔ (0 ≤ p.getD 0 0 ∧ p.getD 0 0 < n) ∧ (0 ≤ p.getD 1 0 ∧ p.getD 1 0 < n) ∧ p.getD 0 0 ≠ p.getD 1 0) := ⟨fun h => h.2, fun h => ⟨hl2, h⟩⟩
            clear hcc hrd2 hl2
            generalize p.getD 0 0 = y0 at *
            generalize p.getD 1 0 = y1 at *
            by_cases g1 : min y0 y1 < 0
            · have HX : Hid (wantOf n (L.take (k + 1)) 3) := HBAD.out (fun h => by have := HOK.out.1 h; omega)
              have d1 : decide (min y0 y1 < 0) = true := by simpa using g1
              clear HBAD HGOOD HOK
              go_wp2_with fail
              go_quiet (fail)
              go_wp2
              go_roundw
              case rel => exact ⟨k + 1, j + nq, 3, by omega, by go_num, rfl, HX.out, by rw [HWR.out, World.drewN_drewN]⟩
              case measure => simp [intOf]; omega
            · by_cases g2 : (n : Int) ≤ max y0 y1
              · have HX : Hid (wantOf n (L.take (k + 1)) 3) := HBAD.out (fun h => by have := HOK.out.1 h; omega)
                have d1 : decide (min y0 y1 < 0) = false := by simpa using g1
                have d2 : decide ((n : Int) ≤ max y0 y1) = true := by simpa using g2
                clear HBAD HGOOD HOK
                go_wp2_with fail
                go_quiet (fail)
                go_wp2
                go_roundw
                case rel => exact ⟨k + 1, j + nq, 3, by omega, by go_num, rfl, HX.out, by rw [HWR.out, World.drewN_drewN]⟩
                case measure => simp [intOf]; omega
              · by_cases g3 : y0 = y1
                · have HX : Hid (wantOf n (L.take (k + 1)) 3) := HBAD.out (fun h => by have := HOK.out.1 h; omega)
                  have d1 : decide (min y0 y1 < 0) = false := by simpa using g1
                  have d2 : decide ((n : Int) ≤ max y0 y1) = false := by simpa using g2
                  have d3 : (y0 == y1) = true := by simpa using g3
                  clear g3
                  clear HBAD HGOOD HOK
                  go_wp2_with fail
                  go_quiet (fail)
                  go_wp2
                  go_roundw
                  case rel => exact ⟨k + 1, j + nq, 3, by omega, by go_num, rfl, HX.out, by rw [HWR.out, World.drewN_drewN]⟩
                  case measure => simp [intOf]; omega
                · have HX : Hid (wantOf n (L.take (k + 1)) r) := HGOOD.out (HOK.out.2 (by omega))
                  have d1 : decide (min y0 y1 < 0) = false := by simpa using g1
                  have d2 : decide ((n : Int) ≤ max y0 y1) = false := by simpa using g2
                  have d3 : (y0 == y1) = false := by simpa using g3
                  clear HBAD HGOOD HOK
                  go_wp2_with fail
                  go_quiet (fail)
                  go_wp2
                  go_roundw
                  case rel => exact ⟨k + 1, j + nq, r, by omega, by go_num, rfl, HX.out, by rw [HWR.out, World.drewN_drewN]⟩
                  case measure => simp [intOf]; omega
          · have hlb : (((p.length : Nat) : Int) != 2) = true := by simp; omega
            have HX : Hid (wantOf n (L.take (k + 1)) 3) := HBAD.out (fun h => hl2 h.1)
            clear hl2
            go_wp2_with fail
            go_quiet (fail)
            go_wp2
            go_roundw
            case rel => exact ⟨k + 1, j + nq, 3, by omega, by go_num, rfl, HX.out, by rw [HWR.out, World.drewN_drewN]⟩
            case measure => simp [intOf]; omega
        · obtain rfl : k = m := by omega
          have e1 : L.take k = L := List.take_of_length_le (by rw [HML.out]; exact Nat.le_refl _)
          rw [e1] at hwn
          have hrr : r = r1 := by
            rcases hwn with ⟨h1, h2⟩ | ⟨h1, h2⟩
            · rcases HWANT.out with ⟨h3, _⟩ | ⟨_, h4⟩
              · omega
              · exact absurd h2 h4
            · rcases HWANT.out with ⟨_, h4⟩ | ⟨h3, _⟩
              · exact absurd h4 h2
              · omega
          subst hrr
          rcases HWANT.out with ⟨h0, hok⟩ | ⟨h3, _⟩
          · subst h0
            obtain ⟨hl1, hrd1⟩ := HGD.out rfl
            have HOK := Lib.hid hok
            have hb1j : Below w.heap.size w wr := by rw [hwr]; exact below_drewN HB1.out j
            have RA := Lib.hid (show RdR wr w1.heap.size a1 l1 (mcg n L) by rw [hwr]; exact hrd1.drewN j)
            have hw1s : wr.heap.size = w1.heap.size := by rw [hwr]; rfl
            have HW1S := Lib.hid hw1s
            have HL1 := Lib.hid hl1
            clear e1 hwn hwr hok hl1 hrd1 HBD HGD HWANT RW1 HB1 HWR hw1s
            obtain ⟨wq, rfl⟩ : ∃ wq, wq = wr := ⟨_, rfl⟩
            have hn1 : 1 ≤ n := by omega
            have hn6 : n ≤ 6 := by omega
            go_wp2_with fail
            go_loopw [10, 83] (fun v iv wr => ∃ (t : Nat) (vs : List Value), t ≤ k ∧ iv = .int .i64 t ∧ wr.ownsRow wq.heap.size 23 1 v (2 * t) vs ∧ Elems wr wq.heap.size 3 vs (mcg n (L.take t)) ∧ Below wq.heap.size wq wr) (fun _ iv _ => k - (intOf iv).toNat)
            case atStart => exact ⟨0, [], Nat.zero_le _, rfl, World.ownsRow_nil _ _ _ _, by simpa [mcg] using Elems.nil_, Below.refl _ wq⟩
            case round =>
              obtain ⟨t, vs, ht, rfl, hv, hel, hbel⟩ := hrel
              have hz := hbel.size
              by_cases htk : t < k
              · obtain ⟨b, o, a', c', rfl, hb, hcell, hlc', hnil, hcm', hrd⟩ := HR.out.at_ htk
                have htl : t < L.length := by rw [HML.out]; exact htk
                have hpair := HOK.out _ (memR htl)
                have hall : Below w.heap.size w wr := hb1j.trans (hbel.mono hb1j.size)
                have hct : wr.cell? ⟨b, o + t, none⟩ = some (.slice a' 2 c') := by rw [(hall.cell (by show b < _; omega)), hcell, hpair.1]
                rw [hpair.1] at hrd hlc'
                have RD := Lib.hid (hrd.below hall (Nat.le_refl _))
                have HRDQ := Lib.hid (hrd.below hb1j (Nat.le_refl _))
                have HSN := Lib.hid (mcg_succ n L htl)
                have HPL := Lib.hid hpair.1
                clear hcell hrd hpair htl
                generalize L.getD t [] = p at *
                generalize mcg n (L.take t) = T at *
                have hbw1 : Below wr.heap.size wr (wr.alloc (.cells #[.slice a' 2 c'] 23)) := (Below.refl _ wr).alloc (Nat.le_refl _) _
                have hbx1 : (wr.alloc (.cells #[.slice a' 2 c'] 23)).cell? ⟨wr.heap.size, 0, none⟩ = some (.slice a' 2 c') := by rw [World.cell?_alloc_new]; rfl
                have hs1 : (wr.alloc (.cells #[.slice a' 2 c'] 23)).heap.size = wr.heap.size + 1 := by simp
                go_wp2_with fail
                refine (sides_any n _ (by omega)).mono ?_
                rintro e w2 ⟨v2, rfl, o2, hb2⟩
                obtain ⟨g2, cap2, rfl, hg2a, hg2b, hg2c, hg2d, _⟩ := own_form o2 (by omega)
                rw [hs1] at hg2a o2
                have hbw2 : Below wr.heap.size wr w2 := ext_trans hbw1 hb2
                have hz2 := hb2.size
                rw [hs1] at hz2
                have H2 : Hold wq.heap.size wq w2 _ (2 * t) vs T wr.heap.size (.slice a' 2 c') g2 n cap2 (sides n) :=
                  ⟨by omega, own_below hv hbw2 (Nat.le_refl _), hel.below hbw2 (Nat.le_refl _), (hb2.cell (by simp)).trans hbx1, by omega, fun he => by have := (hv.lt _ he).2; omega, own_mono o2 (by omega), by omega, fun j u hj he => by have := ((hel.2 j u hj).lt _ he).2; omega, hbel.trans (hbw2.mono hz)⟩
                have RD2 := Lib.hid (rd_ext (RD.out.more (B' := wr.heap.size) (by have := hall.size; omega)) hbw2)
                have hTG : TellsG 20 #[.pointer (some ⟨wr.heap.size, 0, none⟩)] (sides n) (ofPair p) w2 g2 := fun x hx w6 hgr => by
                  have c6 : w6.cell? ⟨wr.heap.size, 0, none⟩ = some (.slice a' 2 c') := by
                    rw [World.cell?_of_block (hgr.block wr.heap.size (by omega) (fun he => by injection he with he; omega))]
                    exact H2.box
                  have r6 : Rd w6 w.heap.size a' 2 p := (RD.out.below hbw2 (by have := hall.size; omega)).grown hgr (by have := hall.size; omega) (fun y hy => by injection hy with hy; have := hall.size; omega)
                  exact duelVotes1_any x p a' c' wr.heap.size w6 w.heap.size r6 c6
                have HDF := Lib.hid (deleteFuncI_any 20 (fun _ _ => rfl) #[.pointer (some ⟨wr.heap.size, 0, none⟩)] (ofPair p) wq.heap.size g2 n cap2 (sides n) w2 (own_mono o2 (by omega)) (by omega) hTG)
                have HH2 := Lib.hid H2
                clear hTG H2 o2 hb2 hbw2 hv hel hbel hbw1 hbx1 hct
                go_wp2_with fail
                refine HDF.out.mono ?_
                rintro e w3 ⟨m3, rfl, hm3, o3, hgr3⟩
                have hoth : (sides n).filter (fun x => !ofPair p x) = others n p := rfl
                rw [hoth] at o3
                have H3 := HH2.out.turn hgr3 o3
                have hm3l := own_len o3
                have RQ : Hid (∀ wx, Below wq.heap.size wq wx → Rd wx wx.heap.size a' 2 p) := fun wx hbx => by
                  have h1 := hb1j.size
                  have h2 := hbx.size
                  exact (HRDQ.out.below hbx h1).more (by omega)
                obtain ⟨oth, hoth2⟩ : ∃ oth, others n p = oth := ⟨_, rfl⟩
                rw [hoth2] at H3 hm3l HSN
                obtain ⟨q4, hq4⟩ : ∃ q4, p ++ oth = q4 := ⟨_, rfl⟩
                obtain ⟨q7, hq7⟩ : ∃ q7, oth.reverse ++ p = q7 := ⟨_, rfl⟩
                have hl4 : q4.length = 2 + m3 := by rw [← hq4, List.length_append, HPL.out, hm3l]
                have hl7 : q7.length = m3 + 2 := by rw [← hq7, List.length_append, List.length_reverse, HPL.out, hm3l]
                have hl4a : q4.length ≤ 1000 ∧ 0 < q4.length := by omega
                have hl7a : q7.length ≤ 1000 ∧ 0 < q7.length := by omega
                clear hl4 hl7 hm3l
                rw [hq4, hq7] at HSN
                have HQ4 : Hid ([p, oth].flatten = q4) := by show _ = _; rw [← hq4]; simp
                have HQ7 : Hid ([oth.reverse, p].flatten = q7) := by show _ = _; rw [← hq7]; simp
                have HH3 := Lib.hid H3
                have c3 := H3.box
                clear hoth hoth2 hq4 hq7 o3 hgr3 H3 HDF HH2 RD2 RD
                go_wp2_with fail
                have L3 := lit_two w3 23 p oth a' (some ⟨g2, 0, none⟩) 2 c' m3 cap2 (RQ.out w3 HH3.out.bel) hlc' hnil hcm' (Rd.of_own HH3.out.rst) (by omega) (fun h => by cases h) hg2d
                have hba3 : Below w3.heap.size w3 (w3.alloc (.cells #[.slice a' 2 c', .slice (some ⟨g2, 0, none⟩) m3 cap2] 23)) := (Below.refl _ w3).alloc (Nat.le_refl _) _
                have q := concat_any [p, oth] (some ⟨w3.heap.size, 0, none⟩) 2 2 _ _ (Nat.le_refl _) L3 (by omega) (by rw [HQ4.out]; omega)
                rw [HQ4.out] at q
                refine q.mono ?_
                rintro e w4 ⟨v4, rfl, o4, hb4⟩
                have HH4 := Lib.hid ((HH3.out.ext hba3).ext hb4)
                have hg2w : g2 < w3.heap.size := (HH3.out.rst.lt g2 rfl).2
                obtain ⟨g4, cap4, rfl, hg4a, hg4b, hg4c, hg4d, _⟩ := own_form o4 (by omega)
                have hsz3 : (w3.alloc (.cells #[.slice a' 2 c', .slice (some ⟨g2, 0, none⟩) m3 cap2] 23)).heap.size = w3.heap.size + 1 := by simp
                rw [hsz3] at hg4a
                have HO4 := Lib.hid (own_mono o4 (show wq.heap.size ≤ _ by rw [hsz3]; have := HH3.out.base; omega))
                have hrow4 := HH4.out.row
                have hbase4 := HH4.out.base
                clear q L3 hba3 o4 hb4 hsz3 c3 HH3
                go_wp2_with (at_builtin; go_must (refine pushS rfl _ _ rfl w4 wq.heap.size _ (2 * t) vs (some ⟨g4, 0, none⟩) q4.length cap4 rfl rfl (by exact hrow4) hbase4 (by omega) ?_))
                intro g5 cap5 w5 row5 gr5 hg5 _
                have HH5 := Lib.hid (HH4.out.push gr5 row5 hg5 HO4.out (by simp [Value.ownBlock]; omega))
                clear row5 gr5 hg5 hrow4 hbase4 HH4 HO4
                generalize vs ++ [Value.slice (some ⟨g4, 0, none⟩) q4.length cap4] = vs5 at HH5
                go_wp2_with fail
                refine (reverse_own wq.heap.size g2 m3 cap2 oth w5 HH5.out.rst (by omega)).mono ?_
                rintro e w6 ⟨rfl, o6, gr6⟩
                have HH6 := Lib.hid (HH5.out.turn gr6 o6)
                have c6 := HH6.out.box
                clear o6 gr6 HH5
                go_wp2_with fail
                have L6 := lit_two w6 23 oth.reverse p (some ⟨g2, 0, none⟩) a' m3 cap2 2 c' (Rd.of_own HH6.out.rst) (by omega) (fun h => by cases h) hg2d (RQ.out w6 HH6.out.bel) hlc' hnil hcm'
                have hba6 : Below w6.heap.size w6 (w6.alloc (.cells #[.slice (some ⟨g2, 0, none⟩) m3 cap2, .slice a' 2 c'] 23)) := (Below.refl _ w6).alloc (Nat.le_refl _) _
                have q := concat_any [oth.reverse, p] (some ⟨w6.heap.size, 0, none⟩) 2 2 _ _ (Nat.le_refl _) L6 (by omega) (by rw [HQ7.out]; omega)
                rw [HQ7.out] at q
                refine q.mono ?_
                rintro e w7 ⟨v7, rfl, o7, hb7⟩
                have HH7 := Lib.hid ((HH6.out.ext hba6).ext hb7)
                have hg2w6 : g2 < w6.heap.size := (HH6.out.rst.lt g2 rfl).2
                obtain ⟨g7, cap7, rfl, hg7a, hg7b, hg7c, hg7d, _⟩ := own_form o7 (by omega)
                have hsz6 : (w6.alloc (.cells #[.slice (some ⟨g2, 0, none⟩) m3 cap2, .slice a' 2 c'] 23)).heap.size = w6.heap.size + 1 := by simp
                rw [hsz6] at hg7a
                have HO7 := Lib.hid (own_mono o7 (show wq.heap.size ≤ _ by rw [hsz6]; have := HH6.out.base; omega))
                have hrow7 := HH7.out.row
                have hbase7 := HH7.out.base
                clear q L6 hba6 o7 hb7 hsz6 c6 HH6
                go_wp2_with (at_builtin; go_must (refine pushS rfl _ _ rfl w7 wq.heap.size _ (2 * t + 1) _ (some ⟨g7, 0, none⟩) q7.length cap7 rfl rfl (by exact hrow7) hbase7 (by omega) ?_))
                intro g8 cap8 w8 row8 gr8 hg8 _
                have HH8 := Lib.hid (HH7.out.push gr8 row8 hg8 HO7.out (by simp [Value.ownBlock]; omega))
                clear row8 gr8 hg8 hrow7 hbase7 HH7 HO7
                go_wp2
                go_roundw
                case rel => exact ⟨t + 1, _, by omega, by go_num, HH8.out.row, by rw [HSN.out]; exact HH8.out.els, HH8.out.bel⟩
                case measure => simp [intOf]; omega
              · obtain rfl : t = k := by omega
                have e1 : L.take t = L := List.take_of_length_le (by rw [HML.out]; exact Nat.le_refl _)
                rw [e1] at hel
                have hln : (mcg n L).length = 2 * t := by rw [mcg_len, HML.out]
                obtain ⟨av, cv, hu⟩ : ∃ av cv, u10 = .slice av (2 * t) cv := by
                  rcases hv.2 with ⟨h1, h2⟩ | ⟨g, cap, cur, h1, _⟩
                  · rw [h2]; exact ⟨none, 0, h1⟩
                  · exact ⟨_, cap, h1⟩
                subst hu
                have R2 := Lib.hid (RdR.of_own hv hln hel)
                have hl1 := HL1.out
                rw [hln] at hl1
                have RA2 : Hid (RdR wr wr.heap.size a1 (2 * t) (mcg n L)) := by
                  show RdR _ _ _ _ _
                  rw [← hl1]
                  exact (RA.out.below hbel (by have := HW1S.out; omega)).more (by have := HW1S.out; omega)
                have HROWS := Lib.hid (rows_rd (mcg n L) a1 av (2 * t) c1 cv wr wr.heap.size (by omega) (fun l hl => by have := mcg_rows (fun b hb => (HOK.out b hb).1) hl; omega) RA2.out R2.out)
                subst hl1
                have hend : Below w.heap.size w wr := hb1j.trans (hbel.mono hb1j.size)
                clear hv hel hbel e1 hln R2 RA2 RA HL1
                go_wp2_with fail
                refine HROWS.out.mono ?_
                rintro e w9 ⟨rfl, k9, rfl⟩
                clear HROWS
                go_wp2
                go_ret
                exact ⟨rfl, below_drewN hend k9⟩
          · subst h3
            have hl0 := HBD.out (by decide)
            subst hl0
            have hbj : Below w.heap.size w wr := by rw [hwr]; exact below_drewN HB1.out j
            clear hwr hwn HBD HGD
            go_wp2
            go_ret
            exact ⟨rfl, hbj⟩
end Go.Proofs.Ytbmefccljbndeaa

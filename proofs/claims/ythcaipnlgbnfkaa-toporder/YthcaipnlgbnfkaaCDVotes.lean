/-
  duel.Votes: at right pairs it returns McGarvey's ballots, otherwise the error that its arguments deserve; nothing that was there is written.
-/
import Derived.Test.YthcaipnlgbnfkaaM12
import Derived.Test.YthcaipnlgbnfkaaPureA
import Derived.Test.YthcaipnlgbnfkaaCDelF
import Derived.Test.YthcaipnlgbnfkaaM15
import Derived.Test.YthcaipnlgbnfkaaM4
import Derived.Test.YthcaipnlgbnfkaaM3
import Derived.BigQuiet
import Derived.Deep.QuietTactic
namespace Go.Proofs.Ythcaipnlgbnfkaa
open Go.RowKit Fm
set_option linter.unusedVariables false

set_option maxHeartbeats 1000000 in
set_option maxRecDepth 100000 in
theorem isPair_any (n : Int) (p : List Int) (a : Option Addr) (c : Nat) (w : World) (B : Nat) (hr : Rd w B a p.length p) (hm : p.length ≤ 17592186044416) :
    Calls Try.prog 68 #[.int .i64 n, .slice a p.length c] w fun e w' => e = .returned (.bool (decide (okPair n p))) ∧ ∃ k, w' = w.drewN k := by
  obtain ⟨r, hres⟩ : ∃ r, decide (okPair n p) = r := ⟨_, rfl⟩
  rw [hres]
  have HR : Hid (decide (okPair n p) = r) := hres
  clear hres
  by_cases hl2 : p.length = 2
  · rw [hl2] at hr ⊢
    obtain ⟨b2, o2, rfl, hbb2, hcc⟩ := hr.2 (by omega)
    have c0 := hcc 0 (by omega)
    have c1 := hcc 1 (by omega)
    rw [Nat.add_zero] at c0
    have HOK : Hid (okPair n p ↔ (0 ≤ p.getD 0 0 ∧ p.getD 0 0 < n) ∧ (0 ≤ p.getD 1 0 ∧ p.getD 1 0 < n) ∧ p.getD 0 0 ≠ p.getD 1 0) := ⟨fun h => h.2, fun h => ⟨hl2, h⟩⟩
    clear hcc hr hl2 hm
    generalize p.getD 0 0 = y0 at *
    generalize p.getD 1 0 = y1 at *
    by_cases g3 : y0 = y1
    · have HX : Hid (r = false) := by show _ = _; rw [← HR.out]; exact decide_eq_false (fun h => (HOK.out.1 h).2.2 g3)
      have d3 : (y0 == y1) = true := by simpa using g3
      clear g3 HR HOK
      go_enter Try.func68, Try.ntmps68
      go_wp2_with fail
      go_quiet (fail)
      go_wp2
      go_ret
      exact ⟨by rw [HX.out]; rfl, _, rfl⟩
    · have d3 : (y0 == y1) = false := by simpa using g3
      have l2 : ((2 : Int) != 2) = false := rfl
      by_cases g1 : min y0 y1 < 0
      · have HX : Hid (r = false) := by show _ = _; rw [← HR.out]; exact decide_eq_false (fun h => by have := HOK.out.1 h; omega)
        have d1 : decide (0 ≤ min y0 y1) = false := by simp only [decide_eq_false_iff_not]; omega
        clear g3 HR HOK g1
        go_enter Try.func68, Try.ntmps68
        go_wp2_with fail
        go_quiet (fail)
        go_wp2_with fail
        go_quiet (fail)
        go_wp2
        go_ret
        exact ⟨by rw [HX.out]; rfl, _, by first | rfl | (rw [World.drewN_drewN])⟩
      · have d1 : decide (0 ≤ min y0 y1) = true := by simp only [decide_eq_true_eq]; omega
        by_cases g2 : (n : Int) ≤ max y0 y1
        · have HX : Hid (r = false) := by show _ = _; rw [← HR.out]; exact decide_eq_false (fun h => by have := HOK.out.1 h; omega)
          have d2 : decide (max y0 y1 < n) = false := by simp only [decide_eq_false_iff_not]; omega
          clear g3 HR HOK g1 g2
          go_enter Try.func68, Try.ntmps68
          go_wp2_with fail
          go_quiet (fail)
          go_wp2_with fail
          go_quiet (fail)
          go_wp2
          go_ret
          exact ⟨by rw [HX.out]; first | rfl | simp [d1, d2], _, by first | rfl | (rw [World.drewN_drewN])⟩
        · have HX : Hid (r = true) := by show _ = _; rw [← HR.out]; exact decide_eq_true (HOK.out.2 (by omega))
          have d2 : decide (max y0 y1 < n) = true := by simp only [decide_eq_true_eq]; omega
          clear g3 HR HOK g1 g2
          go_enter Try.func68, Try.ntmps68
          go_wp2_with fail
          go_quiet (fail)
          go_wp2_with fail
          go_quiet (fail)
          go_wp2
          go_ret
          exact ⟨by rw [HX.out]; first | rfl | simp [d1, d2], _, by first | rfl | (rw [World.drewN_drewN])⟩
  · have hlb : (((p.length : Nat) : Int) != 2) = true := by simp; omega
    have HX : Hid (r = false) := by show _ = _; rw [← HR.out]; exact decide_eq_false (fun h => hl2 h.1)
    clear HR hl2
    go_enter Try.func68, Try.ntmps68
    go_wp2_with fail
    go_quiet (fail)
    go_wp2
    go_ret
    exact ⟨by rw [HX.out]; rfl, _, rfl⟩

theorem others_succ (n : Nat) (p : List Int) : others (n + 1) p = others n p ++ (if ofPair p n then [] else [(n : Int)]) := by
  unfold others ofPair
  rw [sides_succ, List.filter_append]
  congr 1
  by_cases h : ((n : Int) == p.getD 0 0 || (n : Int) == p.getD 1 0) = true
  · rw [if_pos h]; simp only [List.filter_cons, h]; rfl
  · rw [if_neg h]; simp only [List.filter_cons, List.filter_nil]; rw [if_pos (by simpa using h)]
theorem ofPair_mem {p : List Int} (hp : p.length = 2) (x : Int) : decide (x ∈ p) = ofPair p x := by
  match p, hp with
  | [y, z], _ => simp [ofPair, List.getD_eq_getElem?_getD]; rfl

set_option maxHeartbeats 1000000 in
set_option maxRecDepth 100000 in
theorem others_any (n : Nat) (hn : n ≤ 6) (p : List Int) (a : Option Addr) (c : Nat) (w : World) (hr : Rd w w.heap.size a 2 p) :
    Calls Try.prog 69 #[.int .i64 n, .slice a 2 c] w fun e w' => ∃ v, e = .returned v ∧ w'.ownsRow w.heap.size 3 1 v (others n p).length (I (others n p)) ∧ Below w.heap.size w w' := by
  have HR := Lib.hid hr
  clear hr
  go_enter Try.func69, Try.ntmps69
  go_wp2_with fail
  go_loopw [5, 8] (fun v i wr => ∃ k : Nat, k ≤ n ∧ i = .int .i64 k ∧ wr.ownsRow w.heap.size 3 1 v (others k p).length (I (others k p)) ∧ Below w.heap.size w wr) (fun _ i _ => n - (intOf i).toNat)
  case atStart => exact ⟨0, Nat.zero_le _, rfl, World.ownsRow_nil _ _ _ _, Below.refl _ _⟩
  case round =>
    obtain ⟨k, hk, rfl, hown, hbel⟩ := hrel
    have hz := hbel.size
    by_cases hlt : k < n
    · have HC := Lib.hid (contains_any p k a 2 c wr w.heap.size (HR.out.below hbel (Nat.le_refl _)) (by omega))
      rw [ofPair_mem HR.out.1] at HC
      have hol := others_len k p
      cases hp : ofPair p k with
      | true =>
        have HS : Hid (others (k + 1) p = others k p) := by show _ = _; rw [others_succ, hp]; simp
        rw [hp] at HC
        clear hp
        go_wp2_with fail
        refine HC.out.mono ?_
        rintro e w1 ⟨rfl, rfl⟩
        clear HC
        go_wp2
        go_roundw
        case rel => exact ⟨k + 1, by omega, by go_num, by rw [HS.out]; exact hown, hbel⟩
        case measure => simp [intOf]; omega
      | false =>
        have HS : Hid (others (k + 1) p = others k p ++ [(k : Int)]) := by show _ = _; rw [others_succ, hp]; simp
        rw [hp] at HC
        clear hp
        generalize others k p = l at *
        go_wp2_with fail
        refine HC.out.mono ?_
        rintro e w1 ⟨rfl, rfl⟩
        clear HC
        go_wp2_with (at_builtin; go_must (refine push1 rfl _ _ rfl wr w.heap.size _ l.length l k rfl rfl (by exact hown) hz (by omega) ?_))
        intro g cap w1 hown1 hgr _ _
        have hb1 : Below w.heap.size w w1 := hbel.grown hgr hz (own_not hown)
        clear hgr hown hbel
        go_wp2
        go_roundw
        case rel => exact ⟨k + 1, by omega, by go_num, by rw [HS.out]; simpa using hown1, hb1⟩
        case measure => simp [intOf]; omega
    · obtain rfl : k = n := by omega
      go_wp2
      go_ret
      exact ⟨_, rfl, hown, hbel⟩

/-- slices.Reverse of a row of the caller's own, nil let in. -/
theorem reverse_any (base n : Nat) (v : Value) (l : List Int) (w : World) (hown : w.ownsRow base 3 1 v n (I l)) (hn : n ≤ 9223372036854775807) :
    Calls Try.prog 70 #[v] w fun e w' => e = .returned (.tuple #[]) ∧ w'.ownsRow base 3 1 v n (I l.reverse) ∧ w.grownBy w' v.ownBlock := by
  rcases hown.2 with ⟨rfl, rfl⟩ | ⟨g, cap, cur, rfl, _⟩
  · have hl := own_len hown
    have e1 := List.eq_nil_of_length_eq_zero hl
    subst e1
    refine (Try.slices_Reverse_int_empty none 0 w).mono ?_
    rintro e w' ⟨rfl, rfl⟩
    exact ⟨rfl, hown, grown_refl _ _⟩
  · exact reverse_own base g n cap l w hown hn

/-- append(v, s, t), v a row of slices of the call's own, the two slices laid in a new block first. -/
theorem pushS2 {ops : Array Oper} {rest : List Oper} {o : Oper} {a : Act} {Q : Exit → Act → World → Prop} (hgd : o.guard = none) (s x : Operand)
    (ho : o.op = .call { callee := .builtin .append, args := #[s, x], argTypes := #[44, 44] })
    (w : World) (base : Nat) (v : Value) (n : Nat) (vs : List Value) (ya : Option Addr) (yn yc : Nat) (za : Option Addr) (zn zc : Nat) (hs : a.eval s = v) (hx : a.eval x = .slice (some ⟨w.heap.size, 0, none⟩) 2 2)
    (hown : w.ownsRow base 22 1 v n vs) (hbase : base ≤ w.heap.size) (hn : n ≤ 1000000)
    (h : ∀ g cap w', w'.ownsRow base 22 1 (.slice (some ⟨g, 0, none⟩) (n + 2) cap) (n + 2) (vs ++ [.slice ya yn yc, .slice za zn zc]) → w.grownBy w' v.ownBlock → (v.ownBlock = some g ∨ w.heap.size < g) → g < w'.heap.size →
      wpList Try.prog ops Q rest (a.put o.dst (.slice (some ⟨g, 0, none⟩) (n + 2) cap)) w') : wpList Try.prog ops Q (o :: rest) a (w.alloc (.cells #[.slice ya yn yc, .slice za zn zc] 22)) := by
  obtain ⟨i0, hi, hz0, hz1, hz2⟩ := info_parts info_ints
  refine wpList_append_lies _ hgd s x 44 ho base 22 i0 (.slice none 0 0) 1 24 Try.underlying44 hi hz0 hz1 hz2 rfl (by decide) v n vs hs (hown.alloc _) ⟨w.heap.size, 0, none⟩ 2 2 [.slice ya yn yc, .slice za zn zc] hx rfl ?_ ?_ (by decide) ?_ ?_ ?_ (w.heap.size + 1) (by simp) ?_
  · intro j u hj
    match j, hj with
    | 0, hj => simp at hj; subst hj; simp [Addr.add, World.cell?_alloc_new]
    | 1, hj => simp at hj; subst hj; simp [Addr.add, World.cell?_alloc_new]
  · intro u hu; simp at hu; rcases hu with rfl | rfl <;> rfl
  · unfold maxLen; omega
  · omega
  · simp; omega
  · intro g cap w' h1 h2 h3 h4
    refine h g cap w' h1 ?_ ?_ h4
    · refine ⟨h2.os, h2.tape, h2.output, Nat.le_trans (by simp) h2.size, fun k hk hne => ?_⟩
      rw [h2.block k (by simp; omega) hne]
      exact Below.heap_alloc w _ k hk
    · rcases h3 with h3 | h3
      · exact .inl h3
      · right; omega

/-- What duel.Votes answers. -/
def DVotesOut (n : Int) (L : List (List Int)) (w : World) (e : Ending) (w' : World) : Prop :=
  ∃ a1 l1 c1 r, e = .returned (.tuple #[.slice a1 l1 c1, .int .i64 r]) ∧ bchk n L = r ∧ Below w.heap.size w w' ∧ (r = 0 → l1 = (mcg n.toNat L).length ∧ l1 ≤ c1 ∧ c1 ≤ maxLen ∧ RdR w' w'.heap.size a1 l1 (mcg n.toNat L) ∧ ∃ vs, w'.ownsRow w.heap.size 22 1 (.slice a1 l1 c1) l1 vs ∧ Elems w' w.heap.size 3 vs (mcg n.toNat L)) ∧ (r ≠ 0 → a1 = none ∧ l1 = 0 ∧ c1 = 0)

set_option maxHeartbeats 4000000 in
set_option maxRecDepth 100000 in
theorem dvotes_all (n0 : Int) (a : Option Addr) (m c : Nat) (L : List (List Int)) (w : World) (ti : TabIn w a m L) :
    Calls Try.prog 36 #[.int .i64 n0, .slice a m c] w (DVotesOut n0 L w) := by
  obtain ⟨B, hB, hr, hm, h8⟩ := ti
  have HR := Lib.hid hr
  have H8 := Lib.hid h8
  have HML := Lib.hid hr.1
  clear hr h8
  obtain ⟨r, hres⟩ : ∃ r, bchk n0 L = r := ⟨_, rfl⟩
  have HPOST : Hid (∀ e w', (∃ a1 l1 c1, e = .returned (.tuple #[.slice a1 l1 c1, .int .i64 r]) ∧ Below w.heap.size w w' ∧ (r = 0 → l1 = (mcg n0.toNat L).length ∧ l1 ≤ c1 ∧ c1 ≤ maxLen ∧ RdR w' w'.heap.size a1 l1 (mcg n0.toNat L) ∧ ∃ vs, w'.ownsRow w.heap.size 22 1 (.slice a1 l1 c1) l1 vs ∧ Elems w' w.heap.size 3 vs (mcg n0.toNat L)) ∧ (r ≠ 0 → a1 = none ∧ l1 = 0 ∧ c1 = 0)) → DVotesOut n0 L w e w') := fun e w' ⟨a1, l1, c1, h⟩ => ⟨a1, l1, c1, r, h.1, hres, h.2⟩
  by_cases h1 : n0 < 1
  · have HX : Hid (r = 1) := by show _ = _; rw [← hres]; unfold bchk; rw [if_pos (.inl h1)]
    clear hres
    go_enter Try.func36, Try.ntmps36
    go_wp2
    go_ret2
    exact HPOST.out _ _ ⟨none, 0, 0, by rw [HX.out]; rfl, Below.refl _ w, (fun h => by rw [HX.out] at h; cases h), fun _ => ⟨rfl, rfl, rfl⟩⟩
  by_cases h6 : 6 < n0
  · have HX : Hid (r = 1) := by show _ = _; rw [← hres]; unfold bchk; rw [if_pos (.inr h6)]
    clear hres
    go_enter Try.func36, Try.ntmps36
    go_wp2
    go_ret2
    exact HPOST.out _ _ ⟨none, 0, 0, by rw [HX.out]; rfl, Below.refl _ w, (fun h => by rw [HX.out] at h; cases h), fun _ => ⟨rfl, rfl, rfl⟩⟩
  obtain ⟨n, rfl⟩ : ∃ n : Nat, n0 = n := ⟨n0.toNat, by omega⟩
  by_cases hlarge : 15 < m
  · have HX : Hid (r = 2) := by show _ = _; rw [← hres]; unfold bchk; rw [if_neg (by omega), if_pos (by rw [HML.out]; exact hlarge)]
    have hlg : (30 : Int) < 2 * (m : Int) := by omega
    clear hres
    go_enter Try.func36, Try.ntmps36
    go_wp2
    go_ret2
    exact HPOST.out _ _ ⟨none, 0, 0, by rw [HX.out]; rfl, Below.refl _ w, (fun h => by rw [HX.out] at h; cases h), fun _ => ⟨rfl, rfl, rfl⟩⟩
  have hlg : ¬ (30 : Int) < 2 * (m : Int) := by omega
  have HBG : Hid ((∀ b ∈ L, okPair n b) → r = 0) := fun h => by rw [← hres]; unfold bchk; rw [if_neg (by omega), if_neg (by rw [HML.out]; exact hlarge), if_pos h]
  have HBB : Hid ((¬ ∀ b ∈ L, okPair n b) → r = 3) := fun h => by rw [← hres]; unfold bchk; rw [if_neg (by omega), if_neg (by rw [HML.out]; exact hlarge), if_neg h]
  have hn1 : 1 ≤ n := by omega
  have hn6 : n ≤ 6 := by omega
  rw [Int.toNat_natCast] at HPOST
  clear hres
  go_enter Try.func36, Try.ntmps36
  go_wp2_with fail
  go_loopw [6, 23] (fun v iv wr => ∃ (t : Nat) (vs : List Value), t ≤ m ∧ iv = .int .i64 t ∧ (∀ b ∈ L.take t, okPair n b) ∧ wr.ownsRow w.heap.size 22 1 v (2 * t) vs ∧ Elems wr w.heap.size 3 vs (mcg n (L.take t)) ∧ Below w.heap.size w wr) (fun _ iv _ => m - (intOf iv).toNat)
  case atStart => exact ⟨0, [], Nat.zero_le _, rfl, fun b hb => by simp at hb, World.ownsRow_nil _ _ _ _, by simpa [mcg] using Elems.nil_, Below.refl _ w⟩
  case round =>
    obtain ⟨t, vs, ht, rfl, hok, hv, hel, hbel⟩ := hrel
    have hz := hbel.size
    by_cases htk : t < m
    · obtain ⟨b, o, a', c', rfl, hb, hcell, hlc', hnil, hcm', hrd⟩ := HR.out.at_ htk
      have htl : t < L.length := by rw [HML.out]; exact htk
      have hct : wr.cell? ⟨b, o + t, none⟩ = some (.slice a' (L.getD t []).length c') := (hbel.cell (by show b < _; omega)).trans hcell
      have hsn : L.take (t + 1) = L.take t ++ [L.getD t []] := by
        rw [List.take_succ_eq_append_getElem htl, List.getD_eq_getElem?_getD, List.getElem?_eq_getElem htl]; rfl
      have HOK' : Hid (okPair n (L.getD t []) → ∀ b ∈ L.take (t + 1), okPair n b) := fun h q hq => by
        rw [hsn, List.mem_append] at hq
        rcases hq with hq | hq
        · exact hok q hq
        · rw [List.mem_singleton] at hq; subst hq; exact h
      have HBAD : Hid (¬ okPair n (L.getD t []) → r = 3) := fun h => HBB.out (fun hh => h (hh _ (memR htl)))
      have HSN := Lib.hid (mcg_succ n L htl)
      have hpl := H8.out _ (memR htl)
      have RD := Lib.hid (hrd.below hbel hB)
      have HIP := Lib.hid (isPair_any n (L.getD t []) a' c' wr B RD.out hpl)
      clear hcell hrd hsn hok htl
      generalize L.getD t [] = p at *
      by_cases hp : okPair n p
      · rw [decide_eq_true hp] at HIP
        have HOK2 := Lib.hid (HOK'.out hp)
        obtain ⟨hp2, _⟩ := hp
        have HPL := Lib.hid hp2
        rw [hp2] at hct HIP RD hlc'
        generalize mcg n (L.take t) = T at *
        clear HOK' HBAD hpl hp2
        go_wp2_with fail
        refine HIP.out.mono ?_
        rintro e w0 ⟨rfl, q, rfl⟩
        have hv0 := own_drewN hv q
        have hel0 := hel.drewN q
        have hb0 := below_drewN hbel q
        have R0 := Lib.hid (RD.out.drewN q)
        clear hv hel hbel HIP RD hct hz
        generalize wr.drewN q = w0 at *
        have hz0 := hb0.size
        have HOT := Lib.hid (others_any n hn6 p a' c' w0 (R0.out.more (by omega)))
        obtain ⟨oth, hoth⟩ : ∃ oth, others n p = oth := ⟨_, rfl⟩
        have hol := others_len n p
        rw [hoth] at HOT hol HSN
        clear hoth
        go_wp2_with fail
        refine HOT.out.mono ?_
        rintro e w2 ⟨v2, rfl, o2, hb2⟩
        obtain ⟨a2, c2, rfl, hc2, hm2⟩ := own_slice o2
        have hz2 := hb2.size
        have HO2 := Lib.hid o2
        clear HOT o2
        go_wp2_with fail
        refine (clone_any oth a2 oth.length c2 w2 _ (Rd.of_own HO2.out) (by omega)).mono ?_
        rintro e w3 ⟨v3, rfl, o3, hb3⟩
        have hz3 := hb3.size
        have hv3n := own_not o3
        go_wp2_with fail
        refine (reverse_any w2.heap.size oth.length v3 oth w3 o3 (by omega)).mono ?_
        rintro e w4 ⟨rfl, o4, gr4⟩
        have hb24 : Below w2.heap.size w2 w4 := hb3.grown gr4 hz3 hv3n
        have hb04 : Below w0.heap.size w0 w4 := ext_trans hb2 hb24
        have hz4 := hb24.size
        have RP4 := Lib.hid ((R0.out.below hb04 (by omega)).more (show B ≤ w4.heap.size by omega))
        have RO4 := Lib.hid (((Rd.of_own HO2.out).below hb24 (Nat.le_refl _)).more hz4)
        obtain ⟨a3, c3, rfl, hc3, hm3⟩ := own_slice o4
        have hn2 := own_nil HO2.out
        have hn3 := own_nil o4
        have HO4 := Lib.hid o4
        have H04 := Lib.hid hb04
        obtain ⟨q5, hq5⟩ : ∃ q, p ++ oth = q := ⟨_, rfl⟩
        obtain ⟨q6, hq6⟩ : ∃ q, oth.reverse ++ p = q := ⟨_, rfl⟩
        rw [hq5, hq6] at HSN
        have hl5 : q5.length ≤ 1000 ∧ 0 < q5.length := by rw [← hq5, List.length_append, HPL.out]; omega
        have hl6 : q6.length ≤ 1000 ∧ 0 < q6.length := by rw [← hq6, List.length_append, List.length_reverse, HPL.out]; omega
        have HQ5 : Hid ([p, oth].flatten = q5) := by show _ = _; rw [← hq5]; simp
        have HQ6 : Hid ([oth.reverse, p].flatten = q6) := by show _ = _; rw [← hq6]; simp
        clear hq5 hq6 o3 hb3 hv3n gr4 o4 hb24 hb2 hb04 R0 HO2
        go_wp2_with fail
        have L4 := lit_two w4 22 p oth a' a2 2 c' oth.length c2 RP4.out hlc' hnil hcm' RO4.out hc2 hn2 hm2
        have hba4 : Below w4.heap.size w4 (w4.alloc (.cells #[.slice a' 2 c', .slice a2 oth.length c2] 22)) := (Below.refl _ w4).alloc (Nat.le_refl _) _
        have qc := concat_any [p, oth] (some ⟨w4.heap.size, 0, none⟩) 2 2 _ _ (Nat.le_refl _) L4 (by omega) (by rw [HQ5.out]; omega)
        rw [HQ5.out] at qc
        refine qc.mono ?_
        rintro e w5 ⟨v5, rfl, o5, hb5⟩
        have hb45 := ext_trans hba4 hb5
        have hz5 := hb45.size
        have RF5 := Lib.hid (Rd.of_own (own_below HO4.out hb45 (Nat.le_refl _)))
        have RP5 := Lib.hid (rd_ext RP4.out hb45)
        have H05 := Lib.hid (ext_trans H04.out hb45)
        obtain ⟨a5, c5, rfl, hc5, hm5⟩ := own_slice o5
        have hsz4 : (w4.alloc (.cells #[.slice a' 2 c', .slice a2 oth.length c2] 22)).heap.size = w4.heap.size + 1 := by simp
        have HO5 := Lib.hid (own_mono o5 (show w.heap.size ≤ _ by rw [hsz4]; omega))
        clear qc L4 hba4 o5 hb5 hb45 H04 RO4 RP4 HO4 hsz4
        go_wp2_with fail
        have L5 := lit_two w5 22 oth.reverse p a3 a' oth.length c3 2 c' RF5.out hc3 hn3 hm3 RP5.out hlc' hnil hcm'
        have hba5 : Below w5.heap.size w5 (w5.alloc (.cells #[.slice a3 oth.length c3, .slice a' 2 c'] 22)) := (Below.refl _ w5).alloc (Nat.le_refl _) _
        have qc := concat_any [oth.reverse, p] (some ⟨w5.heap.size, 0, none⟩) 2 2 _ _ (Nat.le_refl _) L5 (by omega) (by rw [HQ6.out]; omega)
        rw [HQ6.out] at qc
        refine qc.mono ?_
        rintro e w6 ⟨v6, rfl, o6, hb6⟩
        have hb56 := ext_trans hba5 hb6
        have hz6 := hb56.size
        have hb06 := ext_trans H05.out hb56
        have hz06 := hb06.size
        obtain ⟨a6, c6, rfl, hc6, hm6⟩ := own_slice o6
        have hsz5 : (w5.alloc (.cells #[.slice a3 oth.length c3, .slice a' 2 c'] 22)).heap.size = w5.heap.size + 1 := by simp
        have HO6 := Lib.hid (own_mono o6 (show w.heap.size ≤ _ by rw [hsz5]; omega))
        have HO56 := Lib.hid (own_below HO5.out hb56 (Nat.le_refl _))
        have hv6 := own_below hv0 hb06 (Nat.le_refl _)
        have HE6 := Lib.hid (hel0.below hb06 (Nat.le_refl _))
        have HB6 := Lib.hid (ext_trans hb0 hb06)
        have hw6 : w.heap.size ≤ w6.heap.size := by omega
        clear qc L5 hba5 o6 hb6 hb56 H05 RF5 RP5 HO5 hsz5 hv0 hel0 hb0 hb06
        go_wp2_with (at_builtin; go_must (refine pushS2 rfl _ _ rfl w6 w.heap.size _ (2 * t) vs a5 q5.length c5 a6 q6.length c6 rfl rfl (by exact hv6) hw6 (by omega) ?_))
        intro g7 cap7 w7 row7 gr7 hg7 _
        have hkind : ∀ y, Value.ownBlock u6 = some y → y < w.heap.size ∨ ∃ c t, w6.heap[y]? = some (.cells c t (0, 0)) ∧ t ≠ 3 := fun y hy => by
          obtain ⟨c, hc⟩ := own_kind hv6 hy
          exact .inr ⟨c, _, hc, by decide⟩
        have els7 := ((HE6.out.kept gr7 hkind).snoc (HO56.out.kept gr7 (own_far hv6 HO56.out (by decide)))).snoc (HO6.out.kept gr7 (own_far hv6 HO6.out (by decide)))
        rw [List.append_assoc, List.cons_append, List.nil_append] at els7
        have hb7 := HB6.out.grown gr7 hw6 (own_not hv6)
        have ELS := Lib.hid els7
        clear els7 gr7 hg7 hkind HO56 HO6 HE6 HB6 hv6
        go_wp2
        go_roundw
        case rel => exact ⟨t + 1, _, by omega, by go_num, HOK2.out, row7, by rw [HSN.out]; exact ELS.out, hb7⟩
        case measure => simp [intOf]; omega
      · rw [decide_eq_false hp] at HIP
        have HX := Lib.hid (HBAD.out hp)
        clear HOK' HBAD hp HSN
        go_wp2_with fail
        refine HIP.out.mono ?_
        rintro e w0 ⟨rfl, q, rfl⟩
        have hb0 := below_drewN hbel q
        clear HIP hct
        generalize wr.drewN q = w0 at *
        go_wp2
        go_ret2
        exact HPOST.out _ _ ⟨none, 0, 0, by rw [HX.out]; rfl, hb0, (fun h => by rw [HX.out] at h; cases h), fun _ => ⟨rfl, rfl, rfl⟩⟩
    · obtain rfl : t = m := by omega
      have e1 : L.take t = L := List.take_of_length_le (by rw [HML.out]; exact Nat.le_refl _)
      rw [e1] at hel hok
      have HX := Lib.hid (HBG.out hok)
      have hln : (mcg n L).length = 2 * t := by rw [mcg_len, HML.out]
      obtain ⟨av, cv, hu, hc1, hc2, hnl⟩ : ∃ av cv, u6 = .slice av (2 * t) cv ∧ 2 * t ≤ cv ∧ cv ≤ maxLen ∧ True := by
        rcases hv.2 with ⟨h1, h2⟩ | ⟨g, cap, cur, h1, _, _, h3, h4, _⟩
        · rw [h2]; exact ⟨none, 0, h1, Nat.le_refl _, by unfold maxLen; omega, trivial⟩
        · exact ⟨_, cap, h1, h3, h4, trivial⟩
      subst hu
      have R2 := Lib.hid (RdR.of_own hv hln hel)
      have O2 := Lib.hid hv
      have E2 := Lib.hid hel
      clear hv hel e1 hok
      have HLN := Lib.hid hln
      clear hln
      go_wp2
      go_ret2
      exact HPOST.out _ _ ⟨av, 2 * t, cv, by rw [HX.out]; rfl, hbel, fun _ => ⟨HLN.out.symm, hc1, hc2, R2.out, vs, O2.out, E2.out⟩, fun h => absurd HX.out h⟩

theorem dVotesE : DVotesE := fun n a m c L w ti hb => (dvotes_all n a m c L w ti).mono fun e w' ⟨a1, l1, c1, r, he, hr, hbl, _, h0⟩ => by
  subst hr
  obtain ⟨rfl, rfl, rfl⟩ := h0 hb
  exact ⟨none, 0, he, hbl⟩
theorem dVotes : DVotes := fun n a m c L w ti hb => (dvotes_all n a m c L w ti).mono fun e w' ⟨a1, l1, c1, r, he, hr, hbl, h0, _⟩ => by
  rw [hb] at hr
  subst hr
  obtain ⟨rfl, h2, h3, h4, _⟩ := h0 rfl
  rw [Int.toNat_natCast] at he h2 h4
  exact ⟨a1, c1, he, h2, h3, h4, hbl⟩
end Go.Proofs.Ythcaipnlgbnfkaa

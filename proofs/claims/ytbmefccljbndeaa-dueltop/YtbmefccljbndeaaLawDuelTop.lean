/-
  plumekeep.DuelTop returns true, for every slice of slices of ints, if package duel keeps its contracts; nothing that was there is written.
-/
import Derived.Test.YtbmefccljbndeaaLawDuelWorst
import Derived.Test.YtbmefccljbndeaaCContains
import Derived.Test.YtbmefccljbndeaaPush
import Derived.BigRegion
import Derived.RegionTactic
import Derived.Deep.DeepCutAuto
namespace Go.Proofs.Ytbmefccljbndeaa
open Go.RowKit Fm
set_option linter.unusedVariables false

/-- The list that the walk from x has come to: no two alike, all of the n, and those before place i have handed on all that they do not lose to. -/
structure Reach (n : Nat) (M : List (List Int)) (x : Int) (i : Nat) (L : List Int) : Prop where
  nodup : L.Nodup
  rng : ∀ z ∈ L, 0 ≤ z ∧ z < n
  head : x ∈ L
  done : ∀ t, t < i → t < L.length → ∀ y : Nat, y < n → ent M y (L.getD t 0).toNat ≤ ent M (L.getD t 0).toNat y → (y : Int) ∈ L
theorem len_of_nodup_subset : ∀ (l m : List Int), l.Nodup → (∀ x ∈ l, x ∈ m) → l.length ≤ m.length := by
  intro l
  induction l with
  | nil => intro m _ _; simp
  | cons a t ih =>
    intro m hn hs
    have ha := hs a (by simp)
    rw [List.nodup_cons] at hn
    have h1 := ih (m.erase a) hn.2 (fun x hx => by
      have hne : x ≠ a := fun e => hn.1 (e ▸ hx)
      exact (List.mem_erase_of_ne hne).2 (hs x (by simp [hx])))
    rw [List.length_erase_of_mem ha] at h1
    have := List.length_pos_of_mem ha
    simp
    omega
theorem nodup_len {n : Nat} {L : List Int} (h1 : L.Nodup) (h2 : ∀ z ∈ L, 0 ≤ z ∧ z < n) : L.length ≤ n := by
  have := len_of_nodup_subset L (sides n) h1 (fun z hz => mem_sides.2 (h2 z hz))
  rwa [sides_len] at this
theorem full_len {n : Nat} {L : List Int} (h1 : L.Nodup) (h2 : ∀ z ∈ L, 0 ≤ z ∧ z < n) (h3 : ∀ y : Nat, y < n → (y : Int) ∈ L) : L.length = n := by
  have a := nodup_len h1 h2
  have := len_of_nodup_subset (sides n) L (sides_nodup n) (fun z hz => by
    have hz := mem_sides.1 hz
    have := h3 z.toNat (by omega)
    rwa [show ((z.toNat : Nat) : Int) = z by omega] at this)
  rw [sides_len] at this
  omega
theorem reach_all {n : Nat} {M : List (List Int)} {x : Int} {L : List Int} (h : Reach n M x L.length L) (hx : x ∈ topL n M) : L.length = n := by
  refine full_len h.nodup h.rng (fun y hy => ?_)
  have hxr := topL_range hx
  obtain ⟨k, rfl⟩ : ∃ k : Nat, x = k := ⟨x.toNat, by omega⟩
  have := top_reach hx (fun z => decide ((z : Int) ∈ L)) (by simpa using h.head) (fun a z ha hz h1 h2 => by
    simp at h1 ⊢
    obtain ⟨t, ht, he⟩ := List.getElem_of_mem h1
    have hg : L.getD t 0 = (a : Int) := by rw [getD_get ht]; exact he
    have := h.done t ht ht z hz (by rw [hg]; simpa using h2)
    exact this) y hy
  simpa using this
theorem Reach.next {n : Nat} {M : List (List Int)} {x : Int} {i : Nat} {L : List Int} (h : Reach n M x i L) (hd : i < L.length → ∀ y : Nat, y < n → ent M y (L.getD i 0).toNat ≤ ent M (L.getD i 0).toNat y → (y : Int) ∈ L) : Reach n M x (i + 1) L :=
  ⟨h.nodup, h.rng, h.head, fun t ht htl y hy hc => by
    by_cases e : t = i
    · subst e; exact hd htl y hy hc
    · exact h.done t (by omega) htl y hy hc⟩
theorem Reach.push {n : Nat} {M : List (List Int)} {x : Int} {i : Nat} {L : List Int} (h : Reach n M x i L) (hi : i ≤ L.length) {y : Nat} (hy : y < n) (hn : (y : Int) ∉ L) : Reach n M x i (L ++ [(y : Int)]) := by
  refine ⟨?_, fun z hz => ?_, by simp [h.head], fun t ht htl z hz hc => ?_⟩
  · rw [List.nodup_append]
    refine ⟨h.nodup, by simp, fun a ha b hb => ?_⟩
    simp at hb; subst hb; rintro rfl; exact hn ha
  · rcases List.mem_append.1 hz with hz | hz
    · exact h.rng z hz
    · simp at hz; subst hz; omega
  · have e : (L ++ [(y : Int)]).getD t 0 = L.getD t 0 := by
      rw [List.getD_eq_getElem?_getD, List.getD_eq_getElem?_getD, List.getElem?_append_left (by omega)]
    rw [e] at hc
    exact List.mem_append.2 (.inl (h.done t ht (by omega) z hz hc))

set_option maxHeartbeats 4000000 in
set_option maxRecDepth 100000 in
theorem duelTop_is (dW : DWins) (dT : DTop) (dTE : DTopE) (v : Value) (M : List (List Int)) {w : World} (f : IsRows w v M) :
    Calls Try.prog 5 #[v] w fun e w' => e = .returned (.bool true) ∧ Below w.heap.size w w' := by
  obtain ⟨a, c, rfl, ti⟩ := tabIn_isRows f
  clear f
  have TI := Lib.hid ti
  have D0 : Hid (∀ W, Calls Try.prog 24 #[] W fun e w' => e = .returned (.bool true) ∧ Below W.heap.size W w') := fun W => duels0_any dW dT W
  have DT : Hid DTop := dT
  have DTE : Hid DTopE := dTE
  clear dW dT dTE ti
  go_enter Try.func5, Try.ntmps5
  go_wp2_with fail
  refine (D0.out w).mono ?_
  rintro e w1 ⟨rfl, hb1⟩
  have HB1 := Lib.hid hb1
  clear hb1
  go_wp2_with fail
  by_cases hw : tchk M = 0
  · have HT := Lib.hid (tab_of hw)
    have q3 := DT.out a M.length c M w1 (TI.out.below HB1.out) hw
    obtain ⟨n, hn⟩ : ∃ n, M.length = n := ⟨_, rfl⟩
    rw [hn] at q3 TI HT ⊢
    obtain ⟨k, hk⟩ : ∃ k, (topL n M).length = k := ⟨_, rfl⟩
    have HK := Lib.hid hk
    have hkn : k ≤ n := by rw [← hk]; unfold topL; rw [List.length_map]; exact Nat.le_trans (List.length_filter_le _ _) (by simp)
    have h1 := HT.out.pos
    have h6 := HT.out.six
    have hk0 : 0 < k := by
      have := top_ne h1 M
      rw [← hk]
      rcases Nat.eq_zero_or_pos (topL n M).length with h | h
      · exact absurd (List.eq_nil_of_length_eq_zero h) this
      · exact h
    have hkb : (((k : Nat) : Int) == 0) = false := by simp; omega
    clear hk
    refine q3.mono ?_
    rintro e w3 ⟨a3, c3, rfl, _, _, r3, hb3⟩
    rw [HK.out] at r3 ⊢
    obtain ⟨B, hB, hrM, _⟩ := TI.out
    obtain ⟨b, o, rfl, hbB, sq⟩ := rdr_square hrM (by omega) HT.out.rows
    have HB3 := Lib.hid (ext_trans HB1.out hb3)
    have SQ := Lib.hid (sq.below HB3.out hB hbB)
    have hwB : B ≤ w3.heap.size := by have := HB3.out.size; omega
    have R3 := Lib.hid r3
    clear r3 hb3 HB1 TI q3 hw hn D0 DT DTE hrM sq
    go_wp2_with fail
    go_loopw [35] (fun i wr => ∃ x j : Nat, x ≤ n ∧ i = .int .i64 x ∧ wr = w3.drewN j) (fun i _ => n - (intOf i).toNat)
    case atStart => exact ⟨0, 0, Nat.zero_le _, rfl, rfl⟩
    case round =>
      obtain ⟨x, j, hx, rfl, rfl⟩ := hrel
      by_cases hxn : x < n
      · go_wp2_with fail
        go_loopw [40] (fun i wr => ∃ y j : Nat, y ≤ n ∧ i = .int .i64 y ∧ wr = w3.drewN j) (fun i _ => n - (intOf i).toNat)
        case atStart => exact ⟨0, j, Nat.zero_le _, rfl, rfl⟩
        case round =>
          obtain ⟨y, j2, hy, rfl, hwr⟩ := hrel
          have HWR := Lib.hid hwr
          have hcl : ∀ p : Addr, wr.cell? p = w3.cell? p := fun p => by rw [hwr]; rfl
          have hrd : Rd wr w3.heap.size a3 k (topL n M) := by rw [hwr]; exact R3.out.drewN j2
          have HCL := Lib.hid hcl
          have RW := Lib.hid hrd
          clear hwr hcl hrd
          by_cases hyn : y < n
          · obtain ⟨bx, ox, cx, hx1, hx2, hx4, hx5, hx3⟩ := SQ.out x hxn
            obtain ⟨by_, oy, cy, hy1, hy2, hy4, hy5, hy3⟩ := SQ.out y hyn
            have r3 := (HCL.out _).trans (hx3 y hyn)
            have r4 := (HCL.out _).trans (hy3 x hxn)
            have r1 := (HCL.out _).trans hx1
            have r2 := (HCL.out _).trans hy1
            clear hx3 hy3 hx1 hy1
            have QX : Hid (∀ j r, decide ((x : Int) ∈ topL n M) = r → Calls Try.prog 25 #[.slice a3 k c3, .int .i64 x] (wr.drewN j) fun e w' => e = .returned (.bool r) ∧ w' = wr.drewN j) := fun j r h => contains_q (topL n M) x a3 k c3 (wr.drewN j) w3.heap.size (RW.out.drewN j) (by omega) r h
            have QY : Hid (∀ j r, decide ((y : Int) ∈ topL n M) = r → Calls Try.prog 25 #[.slice a3 k c3, .int .i64 y] (wr.drewN j) fun e w' => e = .returned (.bool r) ∧ w' = wr.drewN j) := fun j r h => contains_q (topL n M) y a3 k c3 (wr.drewN j) w3.heap.size (RW.out.drewN j) (by omega) r h
            have HDM : Hid ((x : Int) ∈ topL n M → (y : Int) ∉ topL n M → ent M y x < ent M x y) := fun h h' => top_dom h1 M hxn hyn h h'
            by_cases hxt : (x : Int) ∈ topL n M
            · have HX : Hid (decide ((x : Int) ∈ topL n M) = true) := by show _ = _; simpa using hxt
              by_cases hyt : (y : Int) ∈ topL n M
              · have HY : Hid (decide ((y : Int) ∈ topL n M) = true) := by show _ = _; simpa using hyt
                clear hxt hyt
                go_wp2_with fail
                go_quiet ((go_at_call 25; first | exact Calls.quiet_of_same (QX.out _ _ HX.out) | exact Calls.quiet_of_same (QY.out _ _ HY.out)))
                go_wp2
                go_roundw
                case rel => exact ⟨y + 1, j2 + nq, by omega, by go_num, by rw [HWR.out, World.drewN_drewN]⟩
                case measure => simp [intOf]; omega
              · have HY : Hid (decide ((y : Int) ∈ topL n M) = false) := by show _ = _; simpa using hyt
                have hlt := HDM.out hxt hyt
                have hd : decide (ent M x y ≤ ent M y x) = false := by simpa using hlt
                clear hxt hyt
                generalize ent M x y = e1 at r3 hlt hd
                generalize ent M y x = e2 at r4 hlt hd
                go_wp2_with fail
                go_quiet ((go_at_call 25; first | exact Calls.quiet_of_same (QX.out _ _ HX.out) | exact Calls.quiet_of_same (QY.out _ _ HY.out)))
                go_wp2
                go_roundw
                case rel => exact ⟨y + 1, j2 + nq, by omega, by go_num, by rw [HWR.out, World.drewN_drewN]⟩
                case measure => simp [intOf]; omega
            · have HX : Hid (decide ((x : Int) ∈ topL n M) = false) := by show _ = _; simpa using hxt
              clear hxt
              go_wp2_with fail
              go_quiet ((go_at_call 25; exact Calls.quiet_of_same (QX.out _ _ HX.out)))
              go_wp2
              go_roundw
              case rel => exact ⟨y + 1, j2 + nq, by omega, by go_num, by rw [HWR.out, World.drewN_drewN]⟩
              case measure => simp [intOf]; omega
          · obtain rfl : y = n := by omega
            go_wp2
            go_roundw
            case rel => exact ⟨x + 1, j2, by omega, by go_num, HWR.out⟩
            case measure => simp [intOf]; omega
      · obtain rfl : x = n := by omega
        have RNG : Hid (∀ t, t < k → 0 ≤ (topL x M).getD t 0 ∧ (topL x M).getD t 0 < x ∧ (topL x M).getD t 0 ∈ topL x M) := fun t ht => by
          have hm := getD_mem (topL x M) t (by rw [HK.out]; exact ht)
          have := topL_range hm
          exact ⟨this.1, this.2, hm⟩
        obtain ⟨b3, o3, rfl, hb3, hc3⟩ := R3.out.2 hk0
        have HC3 := Lib.hid hc3
        clear hc3
        go_wp2_with fail
        go_loopw [73] (fun i wr => ∃ t : Nat, t ≤ k ∧ i = .int .i64 t ∧ Below w3.heap.size w3 wr) (fun i _ => k - (intOf i).toNat)
        case atStart => exact ⟨0, Nat.zero_le _, rfl, below_drewN (Below.refl _ w3) j⟩
        case round =>
          obtain ⟨t, ht, rfl, hbel⟩ := hrel
          have hz := hbel.size
          by_cases htk : t < k
          · obtain ⟨g1, g2, g3⟩ := RNG.out t htk
            have ct : wr.cell? ⟨b3, o3 + t, none⟩ = some (.int .i64 ((topL x M).getD t 0)) := (hbel.cell hb3).trans (HC3.out t htk)
            have HTP := Lib.hid g3
            clear g3
            generalize (topL x M).getD t 0 = z at *
            have q1 : ¬ z < 0 := by omega
            have q2 : ¬ (x : Int) ≤ z := by omega
            have own0 := own_mono (own_lit wr 3 [z] #[.int .i64 z] rfl (by unfold maxLen; simp)) hz
            have hb0 : Below w3.heap.size w3 (wr.alloc (.cells #[.int .i64 z] 3)) := hbel.alloc hz _
            have rc0 : Reach x M z 0 [z] := ⟨by simp, fun y hy => by simp at hy; omega, by simp, fun t ht => by omega⟩
            have RC0 := Lib.hid rc0
            clear rc0
            go_wp2_with fail
            clear ct hbel
            generalize wr.alloc (.cells #[.int .i64 z] 3) = w4 at *
            go_loopw [9, 10] (fun rv iv wr => ∃ (L : List Int) (i : Nat), i ≤ L.length ∧ iv = .int .i64 i ∧ wr.ownsRow w3.heap.size 3 1 rv L.length (I L) ∧ Reach x M z i L ∧ Below w3.heap.size w3 wr) (fun _ iv _ => x - (intOf iv).toNat)
            case atStart => exact ⟨[z], 0, by simp, rfl, own0, RC0.out, hb0⟩
            case round =>
              obtain ⟨L, i, hiL, rfl, own, rch, hbel⟩ := hrel
              clear own0 hb0
              have hLn := nodup_len rch.nodup rch.rng
              have RCH := Lib.hid rch
              clear rch
              have hpos : 0 < L.length := List.length_pos_of_mem RCH.out.head
              obtain ⟨g, cap, rfl, hg1, hg2, hg3, hg4, _⟩ := own_form own hpos
              by_cases hil : i < L.length
              · have hzi := RCH.out.rng _ (getD_mem L i hil)
                obtain ⟨zi, hzi'⟩ : ∃ zi : Nat, L.getD i 0 = zi := ⟨(L.getD i 0).toNat, by omega⟩
                have hzx : zi < x := by omega
                have HZI := Lib.hid hzi'
                clear hzi hzi'
                go_wp2_with fail
                go_loopw [9, 95] (fun rv yv wr => ∃ (L : List Int) (y : Nat), y ≤ x ∧ i < L.length ∧ yv = .int .i64 y ∧ wr.ownsRow w3.heap.size 3 1 rv L.length (I L) ∧ Reach x M z i L ∧ L.getD i 0 = zi ∧ (∀ u : Nat, u < y → ent M u zi ≤ ent M zi u → (u : Int) ∈ L) ∧ Below w3.heap.size w3 wr) (fun _ yv _ => x - (intOf yv).toNat)
                case atStart => exact ⟨L, 0, Nat.zero_le _, hil, rfl, own, RCH.out, HZI.out, fun u hu => by omega, hbel⟩
                case round =>
                  clear own hg1 hg2 hg3 hg4 hbel hpos hLn hil HZI RCH hiL
                  obtain ⟨L, y, hyx, hil, rfl, own, rch, hzi, hpart, hbel⟩ := hrel
                  have hLn := nodup_len rch.nodup rch.rng
                  have hpos : 0 < L.length := by omega
                  obtain ⟨g, cap, rfl, hg1, hg2, hg3, hg4, hcell⟩ := own_form own hpos
                  have hzc := hcell i hil
                  rw [hzi] at hzc
                  have RCH := Lib.hid rch
                  have HZI := Lib.hid hzi
                  have HPT := Lib.hid hpart
                  have RDL := Lib.hid (Rd.of_own own)
                  have hz5 := hbel.size
                  clear rch hzi hpart hcell
                  by_cases hyn : y < x
                  · have QY : Hid (∀ j r, decide ((y : Int) ∈ L) = r → Calls Try.prog 25 #[.slice (some ⟨g, 0, none⟩) L.length cap, .int .i64 y] (wr.drewN j) fun e w' => e = .returned (.bool r) ∧ w' = wr.drewN j) := fun j r h => contains_q L y (some ⟨g, 0, none⟩) L.length cap (wr.drewN j) wr.heap.size (RDL.out.drewN j) (by omega) r h
                    by_cases hin : (y : Int) ∈ L
                    · have HY : Hid (decide ((y : Int) ∈ L) = true) := by show _ = _; simpa using hin
                      have HNX : Hid (∀ u : Nat, u < y + 1 → ent M u zi ≤ ent M zi u → (u : Int) ∈ L) := fun u hu hc => by
                        by_cases he : u = y
                        · subst he; exact hin
                        · exact HPT.out u (by omega) hc
                      clear hin
                      go_wp2_with fail
                      go_quiet ((go_at_call 25; exact Calls.quiet_of_same (QY.out _ _ HY.out)))
                      go_wp2
                      go_roundw
                      case rel => exact ⟨L, y + 1, by omega, hil, by go_num, own_drewN own _, RCH.out, HZI.out, HNX.out, below_drewN hbel _⟩
                      case measure => simp [intOf]; omega
                    · have HY : Hid (decide ((y : Int) ∈ L) = false) := by show _ = _; simpa using hin
                      have sqn := SQ.out
                      obtain ⟨bx, ox, cx, hx1, hx2, hx4, hx5, hx3⟩ := SQ.out zi hzx
                      obtain ⟨by_, oy, cy, hy1, hy2, hy4, hy5, hy3⟩ := SQ.out y hyn
                      have s1 : wr.cell? ⟨b, o + zi, none⟩ = some (.slice (some ⟨bx, ox, none⟩) x cx) := (hbel.cell (by show b < _; omega)).trans hx1
                      have s2 : wr.cell? ⟨b, o + y, none⟩ = some (.slice (some ⟨by_, oy, none⟩) x cy) := (hbel.cell (by show b < _; omega)).trans hy1
                      have s3 : wr.cell? ⟨bx, ox + y, none⟩ = some (.int .i64 (ent M zi y)) := (hbel.cell (by show bx < _; omega)).trans (hx3 y hyn)
                      have s4 : wr.cell? ⟨by_, oy + zi, none⟩ = some (.int .i64 (ent M y zi)) := (hbel.cell (by show by_ < _; omega)).trans (hy3 zi hzx)
                      clear hx1 hx3 hy1 hy3 sqn
                      have bz : (zi : Int) < (x : Int) := by omega
                      have by1 : (y : Int) < (x : Int) := by omega
                      have bi : (i : Int) < (L.length : Int) := by omega
                      by_cases hc : ent M y zi ≤ ent M zi y
                      · have HPS := Lib.hid (RCH.out.push (by omega) hyn hin)
                        have HG : Hid ((L ++ [(y : Int)]).getD i 0 = zi) := by
                          show _ = _
                          rw [← HZI.out, List.getD_eq_getElem?_getD, List.getD_eq_getElem?_getD, List.getElem?_append_left hil]
                        have HNX : Hid (∀ u : Nat, u < y + 1 → ent M u zi ≤ ent M zi u → (u : Int) ∈ L ++ [(y : Int)]) := fun u hu hc => by
                          by_cases he : u = y
                          · subst he; simp
                          · exact List.mem_append.2 (.inl (HPT.out u (by omega) hc))
                        have hd : decide (ent M y zi ≤ ent M zi y) = true := by simpa using hc
                        clear hin
                        generalize ent M zi y = e1 at s3 hc hd
                        generalize ent M y zi = e2 at s4 hc hd
                        go_wp2_with fail
                        go_quiet ((go_at_call 25; exact Calls.quiet_of_same (QY.out _ _ HY.out)))
                        clear s1 s2 s3 s4 hzc
                        have own1 := own_drewN own nq
                        have hz6 : w3.heap.size ≤ (wr.drewN nq).heap.size := hz5
                        go_wp2_with (at_builtin; go_must (refine push1 rfl _ _ rfl (wr.drewN nq) w3.heap.size _ L.length L y rfl rfl (by exact own1) hz6 (by omega) ?_))
                        intro g' cap' w6 own6 hgr _ _
                        have hb6 : Below w3.heap.size w3 w6 := (below_drewN hbel nq).grown hgr hz6 (own_not own1)
                        have hlen : L.length + 1 = (L ++ [(y : Int)]).length := by simp
                        rw [hlen] at own6 ⊢
                        have hil2 : i < (L ++ [(y : Int)]).length := by simp; omega
                        clear hgr own own1 hbel hlen
                        generalize L ++ [(y : Int)] = L2 at *
                        go_wp2
                        go_roundw
                        case rel => exact ⟨L2, y + 1, by omega, hil2, by go_num, own6, HPS.out, HG.out, HNX.out, hb6⟩
                        case measure => simp [intOf]; omega
                      · have HNX : Hid (∀ u : Nat, u < y + 1 → ent M u zi ≤ ent M zi u → (u : Int) ∈ L) := fun u hu hc' => by
                          by_cases he : u = y
                          · subst he; exact absurd hc' hc
                          · exact HPT.out u (by omega) hc'
                        have hd : decide (ent M y zi ≤ ent M zi y) = false := by simpa using hc
                        clear hin
                        generalize ent M zi y = e1 at s3 hc hd
                        generalize ent M y zi = e2 at s4 hc hd
                        go_wp2_with fail
                        go_quiet ((go_at_call 25; exact Calls.quiet_of_same (QY.out _ _ HY.out)))
                        go_wp2
                        go_roundw
                        case rel => exact ⟨L, y + 1, by omega, hil, by go_num, own_drewN own _, RCH.out, HZI.out, HNX.out, below_drewN hbel _⟩
                        case measure => simp [intOf]; omega
                  · obtain rfl : y = x := by omega
                    have HNR := Lib.hid (RCH.out.next (fun _ u hu hc => by rw [HZI.out] at hc; exact HPT.out u hu (by simpa using hc)))
                    clear hzc
                    go_wp2
                    go_roundw
                    case rel => exact ⟨L, i + 1, by omega, by go_num, own, HNR.out, hbel⟩
                    case measure => simp [intOf]; omega
              · obtain rfl : i = L.length := by omega
                have hfl := reach_all RCH.out HTP.out
                have hflb : (((L.length : Nat) : Int) != (x : Int)) = false := by simp [hfl]
                clear hfl
                go_wp2
                go_roundw
                case rel => exact ⟨t + 1, by omega, by go_num, hbel⟩
                case measure => simp [intOf]; omega
          · obtain rfl : t = k := by omega
            go_wp2
            go_ret
            exact ⟨rfl, HB3.out.trans (hbel.mono HB3.out.size)⟩
  · have hne : (tchk M != 0) = true := by simpa using hw
    refine (DTE.out a M.length c M w1 (TI.out.below HB1.out) hw).mono ?_
    rintro e w3 ⟨a3, c3, rfl, hb3⟩
    have HB3 := Lib.hid (ext_trans HB1.out hb3)
    clear hb3 hw D0 DT DTE
    generalize tchk M = cc at *
    go_wp2
    go_ret
    exact ⟨rfl, HB3.out⟩
end Go.Proofs.Ytbmefccljbndeaa

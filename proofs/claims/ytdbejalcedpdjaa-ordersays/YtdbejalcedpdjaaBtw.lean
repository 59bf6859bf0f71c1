/-
  plumeref.Places and plumeref.Between at orders, plumelaw.rows at equal rows: what they return; nothing that was there is written.
-/
import Derived.Test.YtdbejalcedpdjaaOrders
import Derived.Test.YtdbejalcedpdjaaRefMath
namespace Go.Proofs.Ytdbejalcedpdjaa
open Go.RowKit Fm
set_option linter.unusedVariables false

theorem map_set_at {n : Nat} (p : List Int) (k : Nat) {i : Nat} (hi : i < n) (hx : p.getD k 0 = i) : ((sides n).map (atTo p k)).set i (k : Int) = (sides n).map (atTo p (k + 1)) := by
  apply List.ext_getElem
  · simp
  · intro j h1 h2
    have hj : j < n := by simpa [sides_len] using h2
    rw [List.getElem_set, List.getElem_map, List.getElem_map, ← getD_get (by rw [sides_len]; exact hj), sides_getD hj]
    simp only [atTo]
    rw [hx]
    by_cases e : i = j
    · rw [if_pos e, if_pos (by omega)]
    · rw [if_neg e, if_neg (by omega)]

set_option maxHeartbeats 1000000 in
theorem places2_any {n : Nat} {p : List Int} (hp : p.Perm (sides n)) (h1 : 1 ≤ n) (h6 : n ≤ 6) (a : Option Addr) (c : Nat) (w : World) (B : Nat) (hB : B ≤ w.heap.size) (rp : Rd w B a n p) :
    Calls Try.prog 31 #[.slice a n c] w fun e w' => e = .returned (.slice (some ⟨w.heap.size, 0, none⟩) n n) ∧ w'.ownsRow w.heap.size 3 1 (.slice (some ⟨w.heap.size, 0, none⟩) n n) n (I ((sides n).map (pos p))) ∧ Below w.heap.size w w' := by
  have hmk : ∀ W : World, (Instr.makeSlice 22 (.int .i64 n) (.int .i64 n)).run Try.prog W = .ok (.slice (some ⟨W.heap.size, 0, none⟩) n n) (W.alloc (.cells (zeros n) 3)) := make_ints n (by omega)
  obtain ⟨b, o, rfl, hb, hcell⟩ := rp.2 (by omega)
  have HCELL := Lib.hid hcell
  have HLP := Lib.hid rp.1
  have HIN : Hid (∀ x ∈ p, 0 ≤ x ∧ x < n) := fun x hx => mem_sides.1 (hp.mem_iff.1 hx)
  clear hcell rp
  go_enter Try.func31, Try.ntmps31
  go_wp2
  clear hmk
  have hz := own_lit w 3 (List.replicate n 0) (zeros n) rfl (by unfold maxLen; simp; omega)
  rw [List.length_replicate] at hz
  have e0 : List.replicate n (0 : Int) = (sides n).map (atTo p 0) := by
    apply List.ext_getElem
    · simp [sides_len]
    · intro j h1 h2; simp [atTo]
  rw [e0] at hz
  have hb0 : Below w.heap.size w (w.alloc (.cells (zeros n) 3)) := (Below.refl _ w).alloc (Nat.le_refl _) _
  go_loopw [11] (fun i wr => ∃ k : Nat, k ≤ n ∧ i = .int .i64 k ∧ wr.ownsRow w.heap.size 3 1 (.slice (some ⟨w.heap.size, 0, none⟩) n n) n (I ((sides n).map (atTo p k))) ∧ Below w.heap.size w wr) (fun i _ => n - (intOf i).toNat)
  case atStart => exact ⟨0, Nat.zero_le _, rfl, hz, hb0⟩
  case round =>
    obtain ⟨k, hk, rfl, hown, hbel⟩ := hrel
    clear hz hb0 e0
    by_cases hlt : k < n
    · have cx : wr.cell? ⟨b, o + k, none⟩ = some (.int .i64 (p.getD k 0)) := (hbel.cell (by show b < _; omega)).trans (HCELL.out k hlt)
      have hin := HIN.out (p.getD k 0) (getD_mem p k (by rw [HLP.out]; exact hlt))
      obtain ⟨i, hi⟩ : ∃ i : Nat, p.getD k 0 = i := ⟨(p.getD k 0).toNat, by omega⟩
      have hin2 : i < n := by omega
      have HI := Lib.hid hi
      rw [hi] at cx
      clear hi hin
      have ck := own_cell hown i hin2
      have fk := hown.frozenAt i
      have s1 := hown.stored i (.int .i64 k)
      have e1 : (I ((sides n).map (atTo p k))).set i (.int .i64 k) = I ((sides n).map (atTo p (k + 1))) := by
        rw [← map_set_at p k hin2 HI.out]
        unfold I
        rw [List.map_set]
      rw [e1] at s1
      obtain ⟨s1, s2⟩ := s1
      have hb1 := hbel.grown s2 hbel.size (fun j hj => by injection hj with hj; omega)
      generalize ((sides n).map (atTo p k)).getD i 0 = old at *
      clear hown hbel e1 s2
      go_wp2
      go_roundw
      case rel => exact ⟨k + 1, by omega, by go_num, s1, hb1⟩
      case measure => simp [intOf]; omega
    · obtain rfl : k = n := by omega
      have e2 : (sides k).map (atTo p k) = (sides k).map (pos p) := by unfold pos; rw [HLP.out]
      rw [e2] at hown
      clear e2
      go_wp2
      go_ret
      exact ⟨rfl, hown, hbel⟩

theorem btw_bound {f g : Int → Int} {k n : Nat} (hk : k ≤ n) (h6 : n ≤ 6) : btw f g k ≤ 36 := by
  have h := btw_le f g k
  have h2 : k * k ≤ 6 * 6 := Nat.mul_le_mul (by omega) (by omega)
  omega

set_option maxHeartbeats 2000000 in
theorem between_any {n : Nat} {p q : List Int} (hp : p.Perm (sides n)) (hq : q.Perm (sides n)) (h1 : 1 ≤ n) (h6 : n ≤ 6) (a a2 : Option Addr) (c c2 : Nat) (w : World) (B : Nat) (hB : B ≤ w.heap.size) (rp : Rd w B a n p) (rq : Rd w B a2 n q) :
    Calls Try.prog 18 #[.slice a n c, .slice a2 n c2] w fun e w' => e = .returned (.int .i64 (inv p q)) ∧ Below w.heap.size w w' := by
  rw [← btw_inv hp hq]
  go_enter Try.func18, Try.ntmps18
  go_wp2_with fail
  refine (places2_any hp h1 h6 a c w B hB rp).mono ?_
  rintro e w1 ⟨rfl, o1, hb1⟩
  have z1 := hb1.size
  go_wp2_with fail
  refine (places2_any hq h1 h6 a2 c2 w1 B (by omega) (rq.below hb1 hB)).mono ?_
  rintro e w2 ⟨rfl, o2, hb2⟩
  have z2 := hb2.size
  have o3 := own_below o1 hb2 (Nat.le_refl _)
  have hb3 := hb1.trans (hb2.mono z1)
  have HA : Hid (∀ j, j < n → w2.cell? ⟨w.heap.size, j, none⟩ = some (.int .i64 (pos p j))) := fun j hj => by
    rw [own_cell o3 j hj, getD_get (by simp [sides_len]; exact hj), List.getElem_map, ← getD_get (by rw [sides_len]; exact hj), sides_getD hj]
  have HBc : Hid (∀ j, j < n → w2.cell? ⟨w1.heap.size, j, none⟩ = some (.int .i64 (pos q j))) := fun j hj => by
    rw [own_cell o2 j hj, getD_get (by simp [sides_len]; exact hj), List.getElem_map, ← getD_get (by rw [sides_len]; exact hj), sides_getD hj]
  clear o1 o2 o3 hb1 hb2 rp rq hp hq
  generalize hf : pos p = f at *
  generalize hg : pos q = g at *
  have HF := Lib.hid hf
  have HG := Lib.hid hg
  clear hf hg
  go_wp2_with fail
  go_loopw [7, 16] (fun s7 s16 wr => ∃ k m : Nat, k ≤ n ∧ s16 = .int .i64 k ∧ s7 = .int .i64 (btw f g k) ∧ wr = w2.drewN m) (fun _ s16 _ => n - (intOf s16).toNat)
  case atStart => exact ⟨0, 0, Nat.zero_le _, rfl, rfl, rfl⟩
  case round =>
    obtain ⟨k, m, hk, rfl, rfl, rfl⟩ := hrel
    by_cases hlt : k < n
    · have HS : Hid (btw f g (k + 1) = btw f g k + difs f g k (sides k)) := rfl
      have hbk := btw_bound (f := f) (g := g) hk h6
      have ca := HA.out k hlt
      have cb := HBc.out k hlt
      have bk : (k : Int) < (n : Int) := by omega
      generalize btw f g k = s at *
      go_wp2_with fail
      go_loopw [7, 20] (fun s7 s20 wr => ∃ j m' : Nat, j ≤ k ∧ s20 = .int .i64 j ∧ s7 = .int .i64 ((s : Int) + (difs f g k (sides j) : Nat)) ∧ wr = w2.drewN m') (fun _ s20 _ => k - (intOf s20).toNat)
      case atStart => exact ⟨0, m, Nat.zero_le _, rfl, by simp [difs, sides], rfl⟩
      case round =>
        obtain ⟨j, m', hj, rfl, rfl, rfl⟩ := hrel
        by_cases hjl : j < k
        · have ca2 := HA.out j (by omega)
          have cb2 := HBc.out j (by omega)
          have bj : (j : Int) < (n : Int) := by omega
          have HN : Hid (difs f g k (sides (j + 1)) = difs f g k (sides j) + if (decide (f k < f j) != decide (g k < g j)) = true then 1 else 0) := by show _ = _; rw [sides_succ, difs_snoc]
          have hdl := difs_le f g k (sides j)
          rw [sides_len] at hdl
          generalize difs f g k (sides j) = t at *
          by_cases hfa : f k < f j
          · by_cases hga : g k < g j
            · have e0 : difs f g k (sides (j + 1)) = t := by rw [HN.out, if_neg (by simp [hfa, hga])]; omega
              have HE := Lib.hid e0
              clear e0
              go_wp2_with fail
              go_quiet (fail)
              go_wp2
              go_roundw
              case rel => exact ⟨j + 1, _, by omega, by go_num, by rw [HE.out], rfl⟩
              case measure => simp [intOf]; omega
            · have hgd : decide (g k < g j) = false := by simpa using hga
              have e0 : difs f g k (sides (j + 1)) = t + 1 := by rw [HN.out, if_pos (by simp [hfa]; omega)]
              have HE := Lib.hid e0
              clear e0
              go_wp2_with fail
              go_quiet (fail)
              go_wp2
              go_roundw
              case rel => exact ⟨j + 1, _, by omega, by go_num, by rw [HE.out]; go_num, rfl⟩
              case measure => simp [intOf]; omega
          · have hfd : decide (f k < f j) = false := by simpa using hfa
            by_cases hga : g k < g j
            · have e0 : difs f g k (sides (j + 1)) = t + 1 := by rw [HN.out, if_pos (by simp [hga]; omega)]
              have HE := Lib.hid e0
              clear e0
              go_wp2_with fail
              go_quiet (fail)
              go_wp2
              go_roundw
              case rel => exact ⟨j + 1, _, by omega, by go_num, by rw [HE.out]; go_num, rfl⟩
              case measure => simp [intOf]; omega
            · have hgd : decide (g k < g j) = false := by simpa using hga
              have e0 : difs f g k (sides (j + 1)) = t := by rw [HN.out, if_neg (by simp [hfd, hgd])]; omega
              have HE := Lib.hid e0
              clear e0
              go_wp2_with fail
              go_quiet (fail)
              go_wp2
              go_roundw
              case rel => exact ⟨j + 1, _, by omega, by go_num, by rw [HE.out], rfl⟩
              case measure => simp [intOf]; omega
        · obtain rfl : j = k := by omega
          go_wp2
          go_roundw
          case rel => exact ⟨j + 1, _, by omega, by go_num, by rw [HS.out]; go_num, rfl⟩
          case measure => simp [intOf]; omega
    · obtain rfl : k = n := by omega
      go_wp2
      go_ret
      exact ⟨by rw [HF.out, HG.out]; rfl, below_drewN hb3 m⟩

set_option maxHeartbeats 1000000 in
/-- slices.EqualFunc by slices.Equal, of two slices of slices that read as one list. -/
theorem equalFunc_same (L : List (List Int)) (v1 v2 : Value) (vs1 vs2 : List Value) (b1 b2 : Nat) (w : World) (hL : L.length ≤ 1000000) (hLL : ∀ j, j < L.length → (L.getD j []).length ≤ 1000000)
    (o1 : w.ownsRow b1 22 1 v1 L.length vs1) (e1 : Elems w b1 3 vs1 L) (o2 : w.ownsRow b2 22 1 v2 L.length vs2) (e2 : Elems w b2 3 vs2 L) (hpos : 0 < L.length) :
    Calls Try.prog 30 #[v1, v2, .func (.func 8) #[] #[]] w fun e w' => e = .returned (.bool true) ∧ ∃ k, w' = w.drewN k := by
  obtain ⟨g1, c1, rfl, _, _⟩ := o1.form hpos
  obtain ⟨g2, c2, rfl, _, _⟩ := o2.form hpos
  have O1 := Lib.hid o1
  have O2 := Lib.hid o2
  have E1 := Lib.hid e1
  have E2 := Lib.hid e2
  have HLL := Lib.hid hLL
  clear o1 o2 e1 e2 hLL
  go_enter Try.func30, Try.ntmps30
  go_wp2_with fail
  go_loopw [17] (fun i wr => ∃ j m : Nat, j ≤ L.length ∧ i = .int .i64 j ∧ wr = w.drewN m) (fun i _ => L.length - (intOf i).toNat)
  case atStart => exact ⟨0, 0, Nat.zero_le _, rfl, rfl⟩
  case round =>
    obtain ⟨j, m, hj, rfl, rfl⟩ := hrel
    by_cases hlt : j < L.length
    · obtain ⟨u1, hu1, ou1⟩ := E1.out.at_ hlt
      obtain ⟨u2, hu2, ou2⟩ := E2.out.at_ hlt
      obtain ⟨p1, q1, rfl, _, _⟩ := own_slice ou1
      obtain ⟨p2, q2, rfl, _, _⟩ := own_slice ou2
      have c1' : w.cell? ⟨g1, j, none⟩ = some (.slice p1 (L.getD j []).length q1) := by rw [O1.out.cellAt j (by omega)]; exact hu1
      have c2' : w.cell? ⟨g2, j, none⟩ = some (.slice p2 (L.getD j []).length q2) := by rw [O2.out.cellAt j (by omega)]; exact hu2
      have R1 := Lib.hid (Rd.of_own ou1)
      have R2 := Lib.hid (Rd.of_own ou2)
      have hlj := HLL.out j hlt
      clear hu1 hu2 ou1 ou2
      generalize L.getD j [] = l at *
      go_wp2_with fail
      refine (equal_any l l p1 p2 l.length q1 l.length q2 _ w.heap.size (R1.out.drewN m) (R2.out.drewN m) (by omega) (by omega)).mono ?_
      rintro e w1 ⟨rfl, k, rfl⟩
      go_wp2
      go_roundw
      case rel => exact ⟨j + 1, m + k, by omega, by go_num, by simp⟩
      case measure => simp [intOf]; omega
    · go_wp2
      go_ret
      exact ⟨rfl, m, rfl⟩

set_option maxHeartbeats 400000 in
theorem rows_same (L : List (List Int)) (v1 v2 : Value) (vs1 vs2 : List Value) (b1 b2 : Nat) (w : World) (hL : L.length ≤ 1000000) (hLL : ∀ j, j < L.length → (L.getD j []).length ≤ 1000000)
    (o1 : w.ownsRow b1 22 1 v1 L.length vs1) (e1 : Elems w b1 3 vs1 L) (o2 : w.ownsRow b2 22 1 v2 L.length vs2) (e2 : Elems w b2 3 vs2 L) (hpos : 0 < L.length) :
    Calls Try.prog 15 #[v1, v2] w fun e w' => e = .returned (.bool true) ∧ ∃ k, w' = w.drewN k := by
  have H := Lib.hid (equalFunc_same L v1 v2 vs1 vs2 b1 b2 w hL hLL o1 e1 o2 e2 hpos)
  obtain ⟨g1, c1, rfl, _, _⟩ := o1.form hpos
  obtain ⟨g2, c2, rfl, _, _⟩ := o2.form hpos
  clear o1 e1 o2 e2 hLL
  go_enter Try.func15, Try.ntmps15
  go_wp2_with fail
  refine H.out.mono ?_
  rintro e w1 ⟨rfl, k, rfl⟩
  go_wp2
  go_ret
  exact ⟨rfl, k, rfl⟩
end Go.Proofs.Ytdbejalcedpdjaa

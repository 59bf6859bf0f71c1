/-
  order.Far answers as farD and farE say, for every two slices of ints; nothing that was there is written.
-/
import Derived.Test.YthcaipnlgbnfkaaCCheck
import Derived.Test.YthcaipnlgbnfkaaCPlacesO
import Derived.Test.YthcaipnlgbnfkaaPureA
import Derived.Deep.QuietTactic
import Derived.BigQuiet
import Derived.WalkKit
import Derived.KernelRfl
import Derived.Laws.NewBlocks
namespace Go.Proofs.Ythcaipnlgbnfkaa
open Go.RowKit Fm
set_option linter.unusedVariables false

set_option maxHeartbeats 400000 in
set_option maxRecDepth 100000 in
theorem far_p (p : List Int) (a a2 : Option Addr) (n c n2 c2 : Nat) (w : World) (B : Nat) (hB : B ≤ w.heap.size) (hp : Rd w B a n p) (r : Int) (hr : chk n p = r) (hr0 : r ≠ 0) :
    Calls Try.prog 82 #[.slice a n c, .slice a2 n2 c2] w fun e w' => e = .returned (.tuple #[.int .i64 0, .int .i64 r]) ∧ Below w.heap.size w w' := by
  have hne : (r != 0) = true := by simpa using hr0
  have HR := Lib.hid hr
  clear hr hr0
  go_enter Try.func82, Try.ntmps82
  go_wp2_with fail
  refine (check_any n a n c p w B hB hp).mono ?_
  rintro e w1 ⟨rfl, hb⟩
  rw [HR.out]
  go_wp2
  go_ret2
  exact ⟨rfl, hb⟩

set_option maxHeartbeats 400000 in
set_option maxRecDepth 100000 in
theorem far_q (p q : List Int) (a a2 : Option Addr) (n c n2 c2 : Nat) (w : World) (B : Nat) (hB : B ≤ w.heap.size) (hp : Rd w B a n p) (hq : Rd w B a2 n2 q) (h0 : chk n p = 0) (r : Int) (hr : chk n q = r) (hr0 : r ≠ 0) :
    Calls Try.prog 82 #[.slice a n c, .slice a2 n2 c2] w fun e w' => e = .returned (.tuple #[.int .i64 0, .int .i64 r]) ∧ Below w.heap.size w w' := by
  have hne : (r != 0) = true := by simpa using hr0
  have HR := Lib.hid hr
  have H0 := Lib.hid h0
  clear hr hr0 h0
  go_enter Try.func82, Try.ntmps82
  go_wp2_with fail
  refine (check_any n a n c p w B hB hp).mono ?_
  rintro e w1 ⟨rfl, hb⟩
  rw [H0.out]
  have hz := hb.size
  go_wp2_with fail
  refine (check_any n a2 n2 c2 q w1 B (by omega) (hq.below hb hB)).mono ?_
  rintro e w2 ⟨rfl, hb2⟩
  rw [HR.out]
  go_wp2
  go_ret2
  exact ⟨rfl, hb.trans (hb2.mono hz)⟩

set_option maxHeartbeats 1000000 in
set_option maxRecDepth 100000 in
theorem far_ok (p q : List Int) (a a2 : Option Addr) (n c c2 : Nat) (w : World) (B : Nat) (hB : B ≤ w.heap.size) (hp : Rd w B a n p) (hq : Rd w B a2 n q) (hnc : n ≤ c) (h0 : chk n p = 0) (h02 : chk n q = 0)
    (hp6 : ∀ x ∈ p, 0 ≤ x ∧ x < 6) (hq6 : ∀ x ∈ q, 0 ≤ x ∧ x < 6) (hn1 : 1 ≤ n) (hn6 : n ≤ 6) (d : Int) (hd : d = inv p q) :
    Calls Try.prog 82 #[.slice a n c, .slice a2 n c2] w fun e w' => e = .returned (.tuple #[.int .i64 d, .int .i64 0]) ∧ Below w.heap.size w w' := by
  have H02 := Lib.hid h02
  have H0 := Lib.hid h0
  have HP := Lib.hid hp6
  have HD := Lib.hid hd
  clear h0 h02 hp6 hd
  go_enter Try.func82, Try.ntmps82
  go_wp2_with fail
  refine (check_any n a n c p w B hB hp).mono ?_
  rintro e w1 ⟨rfl, hb1⟩
  rw [H0.out]
  have hz1 := hb1.size
  go_wp2_with fail
  refine (check_any n a2 n c2 q w1 B (by omega) (hq.below hb1 hB)).mono ?_
  rintro e w2 ⟨rfl, hb2⟩
  rw [H02.out]
  have hz2 := hb2.size
  go_wp2_with fail
  refine (places_any a2 n c2 q w2 B (by omega) ((hq.below hb1 hB).below hb2 (by omega)) hn6 hq6).mono ?_
  rintro e w3 ⟨rfl, hb3⟩
  have hz3 := hb3.size
  have hb : Below w.heap.size w w3 := (hb1.trans (hb2.mono hz1)).trans (hb3.mono (by omega))
  have hp3 := hp.below hb hB
  have HLP := Lib.hid hp.1
  have HLQ := Lib.hid hq.1
  have HP3 := Lib.hid hp3.2
  clear hb1 hb2 hb3 hq hp hp3 hq6
  unfold six
  go_wp2
  have HF : Hid (∀ i : Nat, i < 6 → (six (atTo q n))[i]? = some (.int .i64 (atTo q n i))) := fun i hi => six_at _ hi
  go_loopw [10, 33] (fun s i wr => ∃ k m : Nat, k ≤ n ∧ i = .int .i64 k ∧ s = .int .i64 (invTo (atTo q n) p k) ∧ wr = (w3.alloc (.cells (six (atTo q n)) 101)).drewN m) (fun _ i _ => n - (intOf i).toNat)
  case atStart => exact ⟨0, 0, Nat.zero_le _, rfl, rfl, rfl⟩
  case round =>
    obtain ⟨k, m, hk, rfl, rfl, rfl⟩ := hrel
    by_cases hlt : k < n
    · obtain ⟨b, o, rfl, hbB, hc⟩ := HP3.out (by omega)
      have HC := Lib.hid hc
      clear hc
      have hck : ∀ o1, (w3.alloc o1).cell? ⟨b, o + k, none⟩ = some (.int .i64 (p.getD k 0)) := fun o1 => by
        rw [World.cell?_alloc_lt _ _ _ (by show b < _; omega)]; exact HC.out k hlt
      have hx := HP.out (p.getD k 0) (getD_mem p k (by rw [HLP.out]; exact hlt))
      have HS : Hid (invTo (atTo q n) p (k + 1) = invTo (atTo q n) p k + lower (atTo q n) (p.getD k 0) (p.drop (k + 1))) := rfl
      have hle := invTo_le (atTo q n) p k
      rw [HLP.out] at hle
      have hle2 : k * n ≤ 6 * 6 := Nat.mul_le_mul (by omega) hn6
      have hIk : invTo (atTo q n) p k ≤ 36 := by omega
      clear hle hle2
      generalize p.getD k 0 = x at *
      generalize invTo (atTo q n) p k = s at *
      obtain ⟨i, rfl⟩ : ∃ i : Nat, x = i := ⟨x.toNat, by omega⟩
      have hfi := HF.out i (by omega)
      have hlen : (p.drop (k + 1)).length = n - (k + 1) := by rw [List.length_drop, HLP.out]
      have HLD := Lib.hid hlen
      clear hlen
      by_cases hcc : c = k + 1
      all_goals
        go_wp2
        go_loopw [10, 43] (fun s10 i43 wr => ∃ j m' : Nat, j ≤ n - (k + 1) ∧ i43 = .int .i64 j ∧ s10 = .int .i64 ((s : Int) + (lower (atTo q n) i ((p.drop (k + 1)).take j) : Nat)) ∧ wr = (w3.alloc (.cells (six (atTo q n)) 101)).drewN m') (fun _ i43 _ => n - (k + 1) - (intOf i43).toNat)
        case atStart => exact ⟨0, m, Nat.zero_le _, rfl, by simp [lower], rfl⟩
        case round =>
          obtain ⟨j, m', hj, rfl, rfl, rfl⟩ := hrel
          by_cases hjl : j < n - (k + 1)
          · try (exfalso; omega)
            all_goals
              have hcy : ∀ o1, (w3.alloc o1).cell? ⟨b, o + (k + 1) + j, none⟩ = some (.int .i64 ((p.drop (k + 1)).getD j 0)) := fun o1 => by
                rw [World.cell?_alloc_lt _ _ _ (by show b < _; omega), Nat.add_assoc, HC.out (k + 1 + j) (by omega)]
                simp [List.getD_eq_getElem?_getD, List.getElem?_drop]
              have hy := HP.out ((p.drop (k + 1)).getD j 0) (List.mem_of_mem_drop (getD_mem _ j (by rw [HLD.out]; exact hjl)))
              have hsn : (p.drop (k + 1)).take (j + 1) = (p.drop (k + 1)).take j ++ [(p.drop (k + 1)).getD j 0] := take_succ_getD _ j (by rw [HLD.out]; exact hjl)
              have HN : Hid (lower (atTo q n) i ((p.drop (k + 1)).take (j + 1)) = lower (atTo q n) i ((p.drop (k + 1)).take j) + if atTo q n ((p.drop (k + 1)).getD j 0) < atTo q n i then 1 else 0) := by rw [hsn, lower_snoc]; exact rfl
              have hll := lower_le (atTo q n) i ((p.drop (k + 1)).take j)
              have hl2 : ((p.drop (k + 1)).take j).length ≤ 6 := by rw [List.length_take]; omega
              have hll6 : lower (atTo q n) i ((p.drop (k + 1)).take j) ≤ 6 := by omega
              clear hsn hll hl2
              generalize (p.drop (k + 1)).getD j 0 = y at *
              generalize lower (atTo q n) i ((p.drop (k + 1)).take j) = t at *
              obtain ⟨i2, rfl⟩ : ∃ i2 : Nat, y = i2 := ⟨y.toNat, by omega⟩
              have hfj := HF.out i2 (by omega)
              by_cases hcmp : atTo q n i2 < atTo q n i
              · go_wp2
                go_quiet (fail)
                go_wp2
                go_roundw
                case rel => exact ⟨j + 1, _, by omega, by go_num, by rw [HN.out, if_pos hcmp]; go_num, rfl⟩
                case measure => simp [intOf]; omega
              · go_wp2
                go_quiet (fail)
                go_wp2
                go_roundw
                case rel => exact ⟨j + 1, _, by omega, by go_num, by rw [HN.out, if_neg (by omega)]; go_num, rfl⟩
                case measure => simp [intOf]; omega
          · have hjt : (p.drop (k + 1)).take j = p.drop (k + 1) := List.take_of_length_le (by rw [HLD.out]; omega)
            have HJ := Lib.hid hjt
            clear hjt
            go_wp2
            go_roundw
            case rel => exact ⟨k + 1, _, by omega, by go_num, by rw [HJ.out, HS.out]; go_num, rfl⟩
            case measure => simp [intOf]; omega
    · obtain rfl : k = n := by omega
      have hdd : d = invTo (atTo q k) p k := by rw [HD.out]; unfold inv; rw [HLP.out, HLQ.out]
      have HDD := Lib.hid hdd
      clear hdd
      go_wp2
      go_ret2
      exact ⟨by rw [HDD.out]; rfl, below_drewN (hb.alloc (by omega) _) _⟩

/-- What order.Far answers. -/
def farE (p q : List Int) : Int := if chk p.length p ≠ 0 then chk p.length p else chk p.length q
def farD (p q : List Int) : Int := if farE p q = 0 then inv p q else 0

theorem far_any (p q : List Int) (a a2 : Option Addr) (n c n2 c2 : Nat) (w : World) (B : Nat) (hB : B ≤ w.heap.size) (hp : Rd w B a n p) (hq : Rd w B a2 n2 q) (hnc : n ≤ c) :
    Calls Try.prog 82 #[.slice a n c, .slice a2 n2 c2] w fun e w' => e = .returned (.tuple #[.int .i64 (farD p q), .int .i64 (farE p q)]) ∧ Below w.heap.size w w' := by
  have hlp := hp.1
  have hlq := hq.1
  by_cases h0 : chk n p = 0
  · by_cases h1 : chk n q = 0
    · obtain ⟨hr, hl, ho⟩ := chk_zero h1
      obtain ⟨_, _, ho2⟩ := chk_zero h0
      have hn : n2 = n := by omega
      subst hn
      have e1 : farE p q = 0 := by unfold farE; rw [hlp, if_neg (by simpa using h0), h1]
      have e2 : farD p q = inv p q := by unfold farD; rw [if_pos e1]
      rw [e1, e2]
      exact far_ok p q a a2 n2 c c2 w B hB hp hq hnc h0 h1 (fun x hx => ⟨(ho2.1 x hx).1, by have := (ho2.1 x hx).2; omega⟩) (fun x hx => ⟨(ho.1 x hx).1, by have := (ho.1 x hx).2; omega⟩) (by omega) (by omega) _ rfl
    · have e1 : farE p q = chk n q := by unfold farE; rw [hlp, if_neg (by simpa using h0)]
      have e2 : farD p q = 0 := by unfold farD; rw [if_neg (by rw [e1]; exact h1)]
      rw [e1, e2]
      exact far_q p q a a2 n c n2 c2 w B hB hp hq h0 _ rfl h1
  · have e1 : farE p q = chk n p := by unfold farE; rw [hlp, if_pos h0]
    have e2 : farD p q = 0 := by unfold farD; rw [if_neg (by rw [e1]; exact h0)]
    rw [e1, e2]
    exact far_p p a a2 n c n2 c2 w B hB hp _ rfl h0

/-- order.Far at two orders. -/
theorem far_perm {n : Nat} {p q : List Int} (hp : p.Perm (sides n)) (hq : q.Perm (sides n)) (h1 : 1 ≤ n) (h6 : n ≤ 6) (a a2 : Option Addr) (c c2 : Nat) (w : World) (B : Nat) (hB : B ≤ w.heap.size)
    (rp : Rd w B a n p) (rq : Rd w B a2 n q) (hnc : n ≤ c) :
    Calls Try.prog 82 #[.slice a n c, .slice a2 n c2] w fun e w' => e = .returned (.tuple #[.int .i64 (inv p q), .int .i64 0]) ∧ Below w.heap.size w w' := by
  have lp := hp.length_eq
  have lq := hq.length_eq
  rw [sides_len] at lp lq
  have c1 : chk n p = 0 := chk_perm hp h1 h6
  have c2' : chk n q = 0 := chk_perm hq h1 h6
  have e1 : farE p q = 0 := by unfold farE; rw [lp, if_neg (by simpa using c1), c2']
  have e2 : farD p q = inv p q := by unfold farD; rw [if_pos e1]
  have h := far_any p q a a2 n c n c2 w B hB rp rq hnc
  rw [e1, e2] at h
  exact h
end Go.Proofs.Ythcaipnlgbnfkaa

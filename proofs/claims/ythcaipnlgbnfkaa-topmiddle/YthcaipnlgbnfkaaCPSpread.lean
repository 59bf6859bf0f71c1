/-
  peak.spread: the alternatives along the line, each as often as it is first, in a row of its own; nothing that was there is written.
-/
import Derived.Test.YthcaipnlgbnfkaaM4
import Derived.Test.YthcaipnlgbnfkaaM3
import Derived.Test.YthcaipnlgbnfkaaPureA
import Derived.Test.YthcaipnlgbnfkaaM12
namespace Go.Proofs.Ythcaipnlgbnfkaa
open Go.RowKit Fm
set_option linter.unusedVariables false

set_option maxHeartbeats 2000000 in
set_option maxRecDepth 100000 in
theorem spread_any {n : Nat} (h6 : n ≤ 6) (line : List Int) (hlp : line.Perm (sides n)) (V : List (List Int)) (hV : V.length ≤ 30) (hsum : (sprL V line).length ≤ 30) (al : Option Addr) (cl : Nat) (af : Option Addr) (cf : Nat) (w : World)
    (hl : Rd w w.heap.size al n line) (hf : Rd w w.heap.size af n (firstsL n V)) :
    Calls Try.prog 87 #[.slice al n cl, .slice af n cf] w fun e w' => ∃ v, e = .returned v ∧ w'.ownsRow w.heap.size 3 1 v (sprL V line).length (I (sprL V line)) ∧ Below w.heap.size w w' := by
  have HL := Lib.hid hl
  have HF := Lib.hid hf
  have HLL := Lib.hid hl.1
  have HPM := Lib.hid hlp
  have HPRE : Hid (∀ t, t < n → (sprL V (line.take t)).length + fst1 V (line.getD t 0) ≤ 30) := fun t ht => by
    have e := List.take_append_drop (t + 1) line
    have h := hsum
    rw [← e, sprL_append, List.length_append, take_succ_getD line t (by rw [hl.1]; exact ht), sprL_snoc, List.length_append, List.length_replicate] at h
    omega
  obtain ⟨out, hout⟩ : ∃ out, sprL V line = out := ⟨_, rfl⟩
  rw [hout]
  have HOUT := Lib.hid hout
  clear hl hf hlp hsum hout
  go_enter Try.func87, Try.ntmps87
  go_wp2_with fail
  go_loopw [5, 10] (fun v iv wr => ∃ t : Nat, t ≤ n ∧ iv = .int .i64 t ∧ wr.ownsRow w.heap.size 3 1 v (sprL V (line.take t)).length (I (sprL V (line.take t))) ∧ Below w.heap.size w wr) (fun _ iv _ => n - (intOf iv).toNat)
  case atStart => exact ⟨0, Nat.zero_le _, rfl, World.ownsRow_nil _ _ _ _, Below.refl _ w⟩
  case round =>
    obtain ⟨t, ht, rfl, own, hbel⟩ := hrel
    by_cases htn : t < n
    · have hz := hbel.size
      obtain ⟨b, o, rfl, hb, hcell⟩ := HL.out.at_ htn
      have hct : wr.cell? ⟨b, o + t, none⟩ = some (.int .i64 (line.getD t 0)) := (hbel.cell (by show b < _; omega)).trans hcell
      have hmem : line.getD t 0 ∈ line := getD_mem line t (by rw [HLL.out]; exact htn)
      have hx := mem_sides.1 (HPM.out.mem_iff.1 hmem)
      have hpre := HPRE.out t htn
      have HSN : Hid (sprL V (line.take (t + 1)) = sprL V (line.take t) ++ List.replicate (fst1 V (line.getD t 0)) (line.getD t 0)) := by
        show _ = _
        rw [take_succ_getD line t (by rw [HLL.out]; exact htn), sprL_snoc]
      clear hcell hmem
      generalize line.getD t 0 = x at *
      obtain ⟨k, rfl⟩ : ∃ k : Nat, x = k := ⟨x.toNat, by omega⟩
      have hkn : k < n := by omega
      obtain ⟨bf, of, rfl, hbf, hcf⟩ := HF.out.at_ hkn
      have hat : (firstsL n V).getD k 0 = fst1 V k := fnL_at n _ hkn
      rw [hat] at hcf
      have hcf2 : wr.cell? ⟨bf, of + k, none⟩ = some (.int .i64 ((fst1 V k : Nat) : Int)) := (hbel.cell (by show bf < _; omega)).trans hcf
      clear hcf hat hx
      generalize fst1 V k = f at *
      obtain ⟨pre, hpr⟩ : ∃ pre, sprL V (line.take t) = pre := ⟨_, rfl⟩
      rw [hpr] at HSN own hpre
      clear hpr
      go_wp2_with fail
      obtain ⟨wo, rfl⟩ : ∃ wo, wo = wr := ⟨_, rfl⟩
      go_loopw [5, 18] (fun v jv wr => ∃ j : Nat, j ≤ f ∧ jv = .int .i64 j ∧ wr.ownsRow w.heap.size 3 1 v (pre.length + j) (I (pre ++ List.replicate j (k : Int))) ∧ Below w.heap.size w wr) (fun _ jv _ => f - (intOf jv).toNat)
      case atStart => exact ⟨0, Nat.zero_le _, rfl, by simpa using own, hbel⟩
      case round =>
        obtain ⟨j, hj, rfl, own2, hbel2⟩ := hrel
        clear own hbel hct hcf2
        have hz2 := hbel2.size
        by_cases hjf : j < f
        · go_wp2_with (at_builtin; go_must (refine push1 rfl _ _ rfl wr w.heap.size _ (pre.length + j) (pre ++ List.replicate j (k : Int)) (k : Int) rfl rfl (by exact own2) hz2 (by omega) ?_))
          intro g cap w1 own3 hgr _ _
          have hb3 : Below w.heap.size w w1 := hbel2.grown hgr hz2 (own_not own2)
          have e1 : pre ++ (List.replicate j (k : Int) ++ [(k : Int)]) = pre ++ List.replicate (j + 1) (k : Int) := by rw [← List.replicate_succ']
          rw [e1] at own3
          clear hgr own2 hbel2 e1
          go_wp2
          go_roundw
          case rel => exact ⟨j + 1, by omega, by go_num, own3, hb3⟩
          case measure => simp [intOf]; omega
        · obtain rfl : j = f := by omega
          have e1 : pre.length + j = (sprL V (line.take (t + 1))).length := by rw [HSN.out, List.length_append, List.length_replicate]
          rw [← HSN.out, e1] at own2
          clear e1
          go_wp2
          go_roundw
          case rel => exact ⟨t + 1, by omega, by go_num, own2, hbel2⟩
          case measure => simp [intOf]; omega
    · obtain rfl : t = n := by omega
      rw [List.take_of_length_le (by rw [HLL.out]; exact Nat.le_refl _), HOUT.out] at own
      go_wp2
      go_ret
      exact ⟨_, rfl, own, hbel⟩
end Go.Proofs.Ythcaipnlgbnfkaa

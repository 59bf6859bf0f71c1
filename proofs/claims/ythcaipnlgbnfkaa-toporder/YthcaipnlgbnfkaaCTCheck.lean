/-
  tally.Check answers vchk, for every int and every slice of slices of ints that a machine can hold; nothing that was there is written.
-/
import Derived.Test.YthcaipnlgbnfkaaM6
import Derived.Test.YthcaipnlgbnfkaaM3
import Derived.Test.YthcaipnlgbnfkaaPureA
namespace Go.Proofs.Ythcaipnlgbnfkaa
open Go.RowKit Fm
set_option linter.unusedVariables false

theorem vperm {n : Nat} {V : List (List Int)} (h : vchk n V = 0) : ∀ p ∈ V, p.Perm (sides n) := fun p hp => by
  obtain ⟨h1, h2, h3⟩ := chk_zero ((vchk_zero h).2.2 p hp)
  exact isOrd_perm (by omega) h3

theorem chk_alt {n : Int} (h : ¬ (n < 1 ∨ 6 < n)) (l : List Int) (hc : chk n l ≠ 0) : chk n l = 3 := by
  unfold chk at hc ⊢
  rw [if_neg h] at hc ⊢
  by_cases h2 : (l.length : Int) ≠ n
  · rw [if_pos h2]
  · rw [if_neg h2] at hc ⊢
    by_cases h3 : isOrd n l
    · rw [if_pos h3] at hc; exact absurd rfl hc
    · rw [if_neg h3]

set_option maxHeartbeats 1000000 in
set_option maxRecDepth 100000 in
theorem tcheck_any (n : Int) (a : Option Addr) (m c : Nat) (V : List (List Int)) (w : World) (B : Nat) (hB : B ≤ w.heap.size) (hr : RdR w B a m V) (hm : m ≤ 17592186044416) :
    Calls Try.prog 72 #[.int .i64 n, .slice a m c] w fun e w' => e = .returned (.int .i64 (vchk n V)) ∧ Below w.heap.size w w' := by
  obtain rfl := hr.1
  by_cases h : n < 1 ∨ 6 < n
  · rw [vchk_arg h]
    clear hr
    rcases h with h | h
    · go_enter Try.func72, Try.ntmps72
      go_wp2
      go_ret
      exact ⟨rfl, Below.refl _ w⟩
    · have h1 : ¬ n < 1 := by omega
      go_enter Try.func72, Try.ntmps72
      go_wp2
      go_ret
      exact ⟨rfl, Below.refl _ w⟩
  · have h1 : ¬ n < 1 := by omega
    have h6 : ¬ 6 < n := by omega
    by_cases hl : 30 < V.length
    · rw [vchk_large h hl]
      clear hr h
      go_enter Try.func72, Try.ntmps72
      go_wp2
      go_ret
      exact ⟨rfl, Below.refl _ w⟩
    · have HR := Lib.hid hr
      have HH := Lib.hid h
      have HOK : Hid ((∀ p ∈ V, chk n p = 0) → vchk n V = 0) := fun hh => vchk_ok h hl hh
      have HNO : Hid ((¬ ∀ p ∈ V, chk n p = 0) → vchk n V = 3) := fun hh => vchk_form h hl hh
      generalize vchk n V = r at *
      clear hr h
      go_enter Try.func72, Try.ntmps72
      go_wp2
      go_loopw [19] (fun i wr => ∃ t : Nat, t ≤ V.length ∧ i = .int .i64 t ∧ (∀ p ∈ V.take t, chk n p = 0) ∧ Below w.heap.size w wr) (fun i _ => V.length - (intOf i).toNat)
      case atStart => exact ⟨0, Nat.zero_le _, rfl, fun p hp => by simp at hp, Below.refl _ w⟩
      case round =>
        obtain ⟨t, ht, rfl, hok, hbel⟩ := hrel
        have HB := Lib.hid hok
        clear hok
        have hz := hbel.size
        by_cases htl : t < V.length
        · obtain ⟨b, o, a', c', rfl, hb, hcell, _, _, _, hrd⟩ := HR.out.at_ htl
          have hct : wr.cell? ⟨b, o + t, none⟩ = some (.slice a' (V.getD t []).length c') := by
            rw [(hbel.cell (by show b < _; omega)), hcell]
          have RD := Lib.hid (hrd.below hbel hB)
          have hmem : V.getD t [] ∈ V := by rw [List.getD_eq_getElem?_getD, List.getElem?_eq_getElem htl]; exact List.getElem_mem htl
          have HM := Lib.hid hmem
          have hsn : V.take (t + 1) = V.take t ++ [V.getD t []] := by
            rw [List.take_succ_eq_append_getElem htl, List.getD_eq_getElem?_getD, List.getElem?_eq_getElem htl]; rfl
          have HSN := Lib.hid hsn
          clear hsn hcell hrd hmem
          generalize V.getD t [] = p at *
          go_wp2_with fail
          refine (check_any n a' p.length c' p wr B (by omega) RD.out).mono ?_
          rintro e w6 ⟨rfl, hb6⟩
          have hbel6 := hbel.trans (hb6.mono hz)
          clear hb6 hbel hct RD
          by_cases hc : chk n p = 0
          · have HN : Hid (∀ q ∈ V.take (t + 1), chk n q = 0) := fun q hq => by
              rw [HSN.out, List.mem_append] at hq
              rcases hq with hq | hq
              · exact HB.out q hq
              · rw [List.mem_singleton] at hq; subst hq; exact hc
            generalize chk n p = cc at *
            have hcb : (cc != 0) = false := by simpa using hc
            clear hc
            go_wp2
            go_roundw
            case rel => exact ⟨t + 1, by omega, by go_num, HN.out, hbel6⟩
            case measure => simp [intOf]; omega
          · have h3 := chk_alt HH.out p hc
            have hr3 : r = 3 := HNO.out (fun hh => hc (hh p HM.out))
            clear hc
            subst hr3
            generalize chk n p = cc at *
            subst h3
            go_wp2
            go_ret
            exact ⟨rfl, hbel6⟩
        · obtain rfl : t = V.length := by omega
          have hr0 : r = 0 := HOK.out (fun p hp => HB.out p (by rw [List.take_of_length_le (Nat.le_refl _)]; exact hp))
          subst hr0
          go_wp2
          go_ret
          exact ⟨rfl, hbel⟩
end Go.Proofs.Ythcaipnlgbnfkaa

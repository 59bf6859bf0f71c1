/-
  Votes along a line, of any lists of ints: lists alone, no Go text.
-/
import Derived.Test.YtcjhgkmodfkmoaaPeakP
namespace Go.Proofs.Ytcjhgkmodfkmoaa
open Go.RowKit Fm
set_option linter.unusedVariables false

def alVotes (line : List Int) (L : List (List Int)) : List (List Int) := (L.take 30).map (alongL line)
theorem alVotes_len (line : List Int) (L : List (List Int)) : (alVotes line L).length = min L.length 30 := by simp [alVotes, Nat.min_comm]
theorem alVotes_mem {n : Nat} {line : List Int} (hl : line.Perm (sides n)) (h1 : 1 ≤ n) {L : List (List Int)} {p : List Int} (h : p ∈ alVotes line L) : p.Perm (sides n) ∧ Along line p := by
  unfold alVotes at h
  rw [List.mem_map] at h
  obtain ⟨q, _, rfl⟩ := h
  exact alongL_spec hl h1 q
/-- What package peak answers at orders along a line. -/
theorem peak_right {n : Nat} {line : List Int} (hl : line.Perm (sides n)) (h1 : 1 ≤ n) (h6 : n ≤ 6) {V : List (List Int)} (hV : ∀ p ∈ V, p.Perm (sides n) ∧ Along line p) (h30 : V.length ≤ 30) :
    vchk n V = 0 ∧ lchk line V = 0 ∧ allA line V = true ∧ (V.length = 0 → mchk line V = 4) ∧ (V.length ≠ 0 → mchk line V = 0 ∧ midA line V = midL line V) := by
  have hv : vchk n V = 0 := by
    unfold vchk
    rw [if_neg (by omega), if_neg (by omega), if_pos (fun p hp => chk_perm (hV p hp).1 h1 h6)]
  have hlc : lchk line V = 0 := by rw [lchk_ok (by rw [perm_len hl]; exact chk_perm hl h1 h6), perm_len hl]; exact hv
  have ha : V.all (alongB line) = true := by
    rw [List.all_eq_true]
    exact fun p hp => along_iff.2 (hV p hp).2
  refine ⟨hv, hlc, by rw [allA_ok hlc]; exact ha, fun h => mchk_none hlc ha h, fun h => ?_⟩
  have hm := mchk_ok hlc ha h
  exact ⟨hm, midA_ok hm⟩
end Go.Proofs.Ytcjhgkmodfkmoaa

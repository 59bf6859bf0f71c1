/-
  What is left of a game, as lists: words that two laws share.
-/
import Derived.Test.YtimjepakdldacaaCEquils
import Derived.Test.YtimjepakdldacaaCContains
namespace Go.Proofs.Ytimjepakdldacaa
open Go.RowKit Fm
set_option linter.unusedVariables false

theorem kept_pos {n : Nat} {R : Nat → Bool} (h : ∃ x, x < n ∧ R x = true) : 1 ≤ (keptL n R).length := by
  obtain ⟨x, hx, hR⟩ := h
  exact List.length_pos_of_mem (mem_keptL.2 ⟨x, rfl, hx, hR⟩)
theorem kept_one {n : Nat} {R : Nat → Bool} (h : (keptL n R).length = 1) : ∃ x : Nat, x < n ∧ keptL n R = [(x : Int)] ∧ ∀ z, z < n → (R z = true ↔ z = x) := by
  obtain ⟨a, ha⟩ := List.length_eq_one_iff.1 h
  obtain ⟨x, rfl, hx, hR⟩ := mem_keptL.1 (show a ∈ keptL n R by rw [ha]; exact List.mem_singleton.2 rfl)
  refine ⟨x, hx, ha, fun z hz => ⟨fun hz2 => ?_, fun e => by rw [e]; exact hR⟩⟩
  have : (z : Int) ∈ keptL n R := mem_keptL.2 ⟨z, rfl, hz, hz2⟩
  rw [ha, List.mem_singleton] at this
  omega
theorem one_of_nodup {α : Type} {l : List α} {a : α} (hn : l.Nodup) (ha : a ∈ l) (h : ∀ b ∈ l, b = a) : l = [a] := by
  match l, hn, ha, h with
  | [], _, ha, _ => cases ha
  | [b], _, _, h => rw [h b List.mem_cons_self]
  | b :: c :: t, hn, _, h =>
    have e1 := h b List.mem_cons_self
    have e2 := h c (List.mem_cons_of_mem _ List.mem_cons_self)
    rw [e1, e2] at hn
    simp at hn
theorem eq_only {r k : Nat} {A B : List (List Int)} (g : Gam r k A B) {R C : Nat → Bool} (e : EndS A (colsM k B) r k R C) (hX : (keptL r R).length = 1) (hY : (keptL k C).length = 1) :
    eqA A B k r = [((keptL r R).getD 0 0, (keptL k C).getD 0 0)] := by
  obtain ⟨x, hx, ex, hx2⟩ := kept_one hX
  obtain ⟨y, hy, ey, hy2⟩ := kept_one hY
  have hT : ∀ x y, x < r → y < k → ent (colsM k B) y x = ent B x y := fun x y h1 h2 => cols_ent g.b h1 h2
  have h1 := one_left g (cols_pay g.b) hT e.reach hx hy hx2 hy2
  rw [ex, ey]
  refine one_of_nodup (nodup_selA r) ((mem_selA r).2 ⟨x, y, hx, hy, h1, rfl⟩) (fun b hb => ?_)
  obtain ⟨x', y', hx', hy', he, rfl⟩ := (mem_selA r).1 hb
  obtain ⟨q1, q2⟩ := eq_stays g hT e.reach hx' hy' he
  rw [(hx2 x' hx').1 q1, (hy2 y' hy').1 q2]
  rfl
theorem eq_kept {r k : Nat} {A B : List (List Int)} (g : Gam r k A B) {R C : Nat → Bool} (e : EndS A (colsM k B) r k R C) : ∀ b ∈ eqA A B k r, b.1 ∈ keptL r R ∧ b.2 ∈ keptL k C := fun b hb => by
  obtain ⟨x', y', hx', hy', he, rfl⟩ := (mem_selA r).1 hb
  obtain ⟨q1, q2⟩ := eq_stays g (fun x y h1 h2 => cols_ent g.b h1 h2) e.reach hx' hy' he
  exact ⟨mem_keptL.2 ⟨x', rfl, hx', q1⟩, mem_keptL.2 ⟨y', rfl, hy', q2⟩⟩
theorem tab_in {w : World} {a : Option Addr} {c : Nat} {L : List (List Int)} (hr : RdR w w.heap.size a L.length L) (h24 : L.length * 24 ≤ 140737488355328) (hall : ∀ l ∈ L, (∀ x ∈ l, Ok64 x) ∧ l.length * 8 ≤ 140737488355328) : TabIn w a L.length L :=
  ⟨w.heap.size, Nat.le_refl _, hr, by omega, fun l hl => by have := (hall l hl).2; omega⟩
end Go.Proofs.Ytimjepakdldacaa

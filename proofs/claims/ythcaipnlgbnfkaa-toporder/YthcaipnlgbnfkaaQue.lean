/-
  A queue of numbers: a slice of ints that may begin inside its block, read from the front and appended to; a row of bools of the call's own.
-/
import Derived.Test.YthcaipnlgbnfkaaM4
import Derived.ArgAppend
namespace Go.Proofs.Ythcaipnlgbnfkaa
open Go.RowKit Fm
set_option linter.unusedVariables false

/-- The numbers as ints. -/
def IN (q : List Nat) : List Int := q.map fun (i : Nat) => (i : Int)
theorem IN_len (q : List Nat) : (IN q).length = q.length := by simp [IN]
theorem IN_at (q : List Nat) (j : Nat) : (IN q).getD j 0 = ((q.getD j 0 : Nat) : Int) := by
  unfold IN
  rw [List.getD_eq_getElem?_getD, List.getElem?_map, List.getD_eq_getElem?_getD]
  cases q[j]? <;> simp
/-- The value is a slice from block B on that reads as q; all of its room is there and may be written. -/
def Que (w : World) (B : Nat) (v : Value) (q : List Nat) : Prop :=
  ∃ g o cap, v = .slice (some ⟨g, o, none⟩) q.length cap ∧ B ≤ g ∧ g < w.heap.size ∧ q.length ≤ cap ∧ cap ≤ maxLen ∧
    (∀ j, j < q.length → w.cell? ⟨g, o + j, none⟩ = some (.int .i64 ((q.getD j 0 : Nat) : Int))) ∧ (∀ j, j < cap → (w.cell? ⟨g, o + j, none⟩).isSome = true) ∧ ∀ j, w.frozen? ⟨g, j, none⟩ = false
theorem Que.of_own {w : World} {B : Nat} {v : Value} {q : List Nat} (h : w.ownsRow B 3 1 v q.length (I (IN q))) (h0 : 0 < q.length) : Que w B v q := by
  obtain ⟨g, cap, rfl, h1, h2, h3, h4, h5⟩ := own_form h h0
  refine ⟨g, 0, cap, rfl, h1, h2, h3, h4, fun j hj => by rw [Nat.zero_add, h5 j hj, IN_at], fun j hj => ?_, fun j => h.frozenAt j⟩
  rcases h.2 with ⟨_, h6⟩ | ⟨g', cap', cur, hv, _, hg, _, _, hsz, _⟩
  · omega
  · injection hv with hv _ hv3
    injection hv with hv
    injection hv with hv
    subst hv; subst hv3
    rw [cell_of_row w g (0 + j) cur 3 (0, 0) hg, Nat.zero_add, Array.getElem?_eq_getElem (by omega)]
    rfl
theorem Que.keep {w w' : World} {B : Nat} {v : Value} {q : List Nat} (h : Que w B v q) (hb : ∀ k, B ≤ k → k < w.heap.size → w'.heap[k]? = w.heap[k]?) (hs : w.heap.size ≤ w'.heap.size) : Que w' B v q := by
  obtain ⟨g, o, cap, rfl, h1, h2, h3, h4, h5, h6, h7⟩ := h
  have e := hb g h1 h2
  exact ⟨g, o, cap, rfl, h1, by omega, h3, h4, fun j hj => (World.cell?_of_block e).trans (h5 j hj), fun j hj => by rw [World.cell?_of_block (a := ⟨g, o + j, none⟩) e]; exact h6 j hj, fun j => (World.frozen?_of_block e).trans (h7 j)⟩
theorem Que.drewN {w : World} {B : Nat} {v : Value} {q : List Nat} (h : Que w B v q) (k : Nat) : Que (w.drewN k) B v q := h
theorem Que.alloc {w : World} {B : Nat} {v : Value} {q : List Nat} (h : Que w B v q) (o : Obj) : Que (w.alloc o) B v q := h.keep (fun k _ hk => Below.heap_alloc w o k hk) (by simp)
theorem Que.grown {w w' : World} {B : Nat} {v : Value} {q : List Nat} (h : Que w B v q) {gi : Nat} (hg : w.grownBy w' (some gi)) (hi : gi < B) : Que w' B v q :=
  h.keep (fun k h1 h2 => hg.block k h2 (fun e => by injection e with e; omega)) hg.size
/-- The front taken off. -/
theorem Que.pop {w : World} {B g o cap x : Nat} {q : List Nat} (h : Que w B (.slice (some ⟨g, o, none⟩) (q.length + 1) cap) (x :: q)) : w.cell? ⟨g, o, none⟩ = some (.int .i64 (x : Int)) ∧ q.length + 1 ≤ cap ∧ cap ≤ maxLen ∧
    (cap = 1 → Que w B (.slice (some ⟨g, o, none⟩) 0 0) q) ∧ Que w B (.slice (some ⟨g, o + 1, none⟩) q.length (cap - 1)) q := by
  obtain ⟨g', o', cap', hv, h1, h2, h3, h4, h5, h6, h7⟩ := h
  injection hv with hv _ hv3
  injection hv with hv
  injection hv with hv hv4
  subst hv; subst hv3; subst hv4
  simp only [List.length_cons] at h3 h5
  have c0 := h5 0 (by omega)
  rw [Nat.add_zero] at c0
  refine ⟨by simpa using c0, h3, h4, fun hc => ?_, ?_⟩
  · have hq : q.length = 0 := by omega
    refine ⟨g, o, 0, by rw [hq], h1, h2, by omega, by omega, fun j hj => by omega, fun j hj => by omega, h7⟩
  · refine ⟨g, o + 1, cap - 1, rfl, h1, h2, by omega, by omega, fun j hj => ?_, fun j hj => ?_, h7⟩
    · have := h5 (j + 1) (by omega)
      rw [show o + 1 + j = o + (j + 1) by omega, this]
      simp
    · have := h6 (j + 1) (by omega)
      rwa [show o + 1 + j = o + (j + 1) by omega]

/-- append(v, y), v a queue, y laid in a new block first. -/
theorem pushQ {ops : Array Oper} {rest : List Oper} {o : Oper} {a : Act} {Q : Exit → Act → World → Prop} (hgd : o.guard = none) (s x : Operand)
    (ho : o.op = .call { callee := .builtin .append, args := #[s, x], argTypes := #[22, 22] })
    (w : World) (B : Nat) (v : Value) (q : List Nat) (y k0 : Nat) (hs : a.eval s = v) (hx : a.eval x = .slice (some ⟨k0, 0, none⟩) 1 1) (hk0 : k0 = w.heap.size)
    (hq : Que w B v q) (hB : B ≤ w.heap.size) (hn : q.length ≤ 1000)
    (h : ∀ v' w', Que w' B v' (q ++ [y]) → Below B w w' → wpList Try.prog ops Q rest (a.put o.dst v') w') : wpList Try.prog ops Q (o :: rest) a (w.alloc (.cells #[.int .i64 (y : Int)] 3)) := by
  subst hk0
  obtain ⟨i0, hi, hz0, hz1, hz2⟩ := info_parts info_int
  have hq1 := hq.alloc (.cells #[.int .i64 (y : Int)] 3)
  have hnews : ∀ j u, [Value.int .i64 (y : Int)][j]? = some u → (w.alloc (.cells #[.int .i64 (y : Int)] 3)).cell? ((⟨w.heap.size, 0, none⟩ : Addr).add j) = some u := by
    intro j u hj
    match j, hj with
    | 0, hj => simp at hj; subst hj; simp [Addr.add, World.cell?_alloc_new]
  have hone : ∀ u ∈ [Value.int .i64 (y : Int)], u.oneCell' = true := by intro u hu; simp at hu; subst hu; rfl
  have hbel : Below B w (w.alloc (.cells #[.int .i64 (y : Int)] 3)) := (Below.refl B w).alloc hB _
  have hsz : (w.alloc (.cells #[.int .i64 (y : Int)] 3)).heap.size = w.heap.size + 1 := by simp
  generalize w.alloc (.cells #[.int .i64 (y : Int)] 3) = W at *
  obtain ⟨g, off, cap, rfl, h1, h2, h3, h4, h5, h6, h7⟩ := hq1
  refine wpList_plain hgd fun K hK => ?_
  have key : ∃ v' w', (Builtin.append_ #[22, 22] o.type #[.slice (some ⟨g, off, none⟩) q.length cap, .slice (some ⟨w.heap.size, 0, none⟩) 1 1]).run Try.prog W = .ok v' w' ∧ Que w' B v' (q ++ [y]) ∧ Below B w w' := by
    by_cases hroom : q.length + 1 ≤ cap
    · have hr := run_append_room_cells (P := Try.prog) W 22 o.type 3 i0 Try.underlying22 hi g off q.length cap ⟨w.heap.size, 0, none⟩ 1 1 [.int .i64 (y : Int)] (by rw [hz1]; rfl) hnews hone hroom
        (fun j hj => by
          have hj0 : j = 0 := by simp at hj; omega
          subst hj0
          rw [hz1]
          have := h6 q.length (by omega)
          simpa using this) (fun j hj => h7 _)
      rw [hz1, Nat.mul_one] at hr
      refine ⟨_, _, hr, ⟨g, off, cap, by simp, h1, ?_, by simpa using hroom, h4, fun j hj => ?_, fun j hj => ?_, fun j => (World.frozen?_setCells g _ _ _ _).trans (h7 j)⟩, ?_⟩
      · show g < (W.setCell ⟨g, off + q.length, none⟩ _).heap.size
        simpa using h2
      · simp only [List.length_append, List.length_singleton] at hj
        by_cases hjq : j < q.length
        · rw [World.cell?_setCells_out g _ _ _ _ (fun _ _ => .inl (by show off + j < off + q.length; omega)), h5 j hjq]
          simp [List.getD_eq_getElem?_getD, List.getElem?_append_left hjq]
        · obtain rfl : j = q.length := by omega
          have := World.cell?_setCells_in g [.int .i64 (y : Int)] (off + q.length) W (fun j hj => by
            have hj0 : j = 0 := by simp at hj; omega
            subst hj0; exact h6 q.length (by omega)) 0 (by simp)
          rw [Nat.add_zero] at this
          rw [this]
          simp [List.getD_eq_getElem?_getD]
      · by_cases hjq : j = q.length
        · subst hjq
          have := World.cell?_setCells_in g [.int .i64 (y : Int)] (off + q.length) W (fun j hj => by
            have hj0 : j = 0 := by simp at hj; omega
            subst hj0; exact h6 q.length (by omega)) 0 (by simp)
          rw [Nat.add_zero] at this
          rw [this]; rfl
        · rw [World.cell?_setCells_out g _ _ _ _ (fun _ _ => by
            show off + j < off + q.length ∨ off + q.length + 1 ≤ off + j
            omega)]
          exact h6 j hj
      · show Below B w (W.setCell ⟨g, off + q.length, none⟩ _)
        exact hbel.setCell h1 _
    · obtain ⟨v', w', hr, r1, r2⟩ := run_append_arg_grows (P := Try.prog) W 22 o.type 3 i0 (.int .i64 0) 1 8 Try.underlying22 hi hz0 hz1 hz2 rfl (by decide) ⟨g, off, none⟩ q.length cap (I (IN q)) (by rw [I_len, IN_len, Nat.mul_one])
        (fun j u hu => by
          have hj : j < q.length := by
            rcases Nat.lt_or_ge j q.length with h | h
            · exact h
            · rw [List.getElem?_eq_none (by rw [I_len, IN_len]; exact h)] at hu; cases hu
          rw [Addr.add_lit, h5 j hj, ← IN_at]
          unfold I at hu
          rw [List.getElem?_map] at hu
          rw [List.getD_eq_getElem?_getD]
          cases he : (IN q)[j]? with
          | none => rw [he] at hu; cases hu
          | some z => rw [he] at hu; simpa using hu)
        ⟨w.heap.size, 0, none⟩ 1 1 [.int .i64 (y : Int)] rfl hnews (by omega) (by unfold maxLen; omega) (by omega)
      refine ⟨v', w', hr, ?_, ?_⟩
      · refine Que.of_own (own_mono ?_ (show B ≤ W.heap.size by omega)) (by simp)
        have e : I (IN q) ++ [.int .i64 (y : Int)] = I (IN (q ++ [y])) := by simp [I, IN]
        rw [e] at r1
        simpa using r1
      · exact hbel.grown r2 (by omega) (fun y hy => by cases hy)
  obtain ⟨v', w', hrun, k1, k2⟩ := key
  unfold Oper.wp execOp
  simp only [ho, resolve, invoke, builtin, Sem.run_bind, Sem.run_pure, Result.andThen_ok, List.map_toArray, List.map_cons, List.map_nil, hs, hx, hrun]
  exact hK _ _ (h v' w' k1 k2)

/-- The bools of P. -/
def Bs (n : Nat) (P : Nat → Bool) : List Value := (List.range n).map fun j => .bool (P j)
theorem Bs_len (n : Nat) (P : Nat → Bool) : (Bs n P).length = n := by simp [Bs]
theorem Bs_at {n : Nat} (P : Nat → Bool) {j : Nat} (h : j < n) : (Bs n P)[j]? = some (.bool (P j)) := by simp [Bs, h]
theorem Bs_set {n : Nat} (P : Nat → Bool) (j : Nat) : (Bs n P).set j (.bool true) = Bs n (fun z => if z = j then true else P z) := by
  unfold Bs
  apply List.ext_getElem
  · simp
  · intro i h1 h2
    rw [List.getElem_set, List.getElem_map, List.getElem_map, List.getElem_range]
    by_cases e : j = i
    · subst e; simp
    · have e2 : ¬ i = j := fun h => e h.symm
      simp [e, e2]
theorem info_bool : (Try.prog.info? 4).map (fun i => (i.zero, i.size, i.bytes)) = some (some (.bool false), 1, 1) := by kernel_rfl
def falses (n : Nat) : Array Value := (Bs n fun _ => false).toArray
theorem madeCells_falses (n : Nat) : madeCells (Value.bool false).cells n = falses n := by
  apply Array.ext'
  have h := toList_madeCells_one (.bool false) n
  have e : (Value.bool false).cells = #[.bool false] := rfl
  rw [e, h]
  unfold falses Bs
  apply List.ext_getElem
  · simp
  · intro i h1 h2; simp
/-- make([]bool, n). -/
theorem make_bools (n : Nat) (hn : n ≤ 1000000) (w : World) :
    (Instr.makeSlice 83 (.int .i64 n) (.int .i64 n)).run Try.prog w = .ok (.slice (some ⟨w.heap.size, 0, none⟩) n n) (w.alloc (.cells (falses n) 4)) := by
  obtain ⟨i0, hi, hz0, hz1, hz2⟩ := info_parts info_bool
  have h := run_make (P := Try.prog) w 83 4 i0 (.bool false) Try.underlying83 hi hz0 .i64 .i64 n n (by omega) (Int.le_refl _) (by rw [hz2]; omega) (by omega)
  rw [hz1] at h
  simp only [Int.toNat_natCast, Nat.mul_one, madeCells_falses] at h
  exact h
theorem own_falses (w : World) (n : Nat) (hn : n ≤ 1000000) : (w.alloc (.cells (falses n) 4)).ownsRow w.heap.size 4 1 (.slice (some ⟨w.heap.size, 0, none⟩) n n) n (Bs n fun _ => false) := by
  refine ⟨by simp [Bs], .inr ⟨w.heap.size, n, _, rfl, Nat.le_refl _, heap_alloc_new w _, Nat.le_refl _, by unfold maxLen; omega, by simp [falses, Bs], ?_⟩⟩
  rw [List.take_of_length_le (by simp [falses, Bs])]
  rfl
theorem bool_cell {w : World} {base g n cap : Nat} {P : Nat → Bool} (h : w.ownsRow base 4 1 (.slice (some ⟨g, 0, none⟩) n cap) n (Bs n P)) {j : Nat} (hj : j < n) : w.cell? ⟨g, j, none⟩ = some (.bool (P j)) := by
  rw [h.cellAt j (by omega), Bs_at P hj]
end Go.Proofs.Ythcaipnlgbnfkaa

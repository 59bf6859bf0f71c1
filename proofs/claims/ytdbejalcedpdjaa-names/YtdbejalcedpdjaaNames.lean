/-
  plumelaw.Names returns true, whatever the memory. No condition.
-/
import Derived.Test.YtdbejalcedpdjaaRows
import Derived.Test.YtdbejalcedpdjaaShelf
import Derived.Test.YtdbejalcedpdjaaBase
import Derived.WalkKit
import Derived.ProofKit
import Derived.OpenShut
namespace Go.Proofs.Ytdbejalcedpdjaa.names
open Go.ChangeShapes Go.WideShapes Go.ChangeAt Go.RowKit
set_option linter.unusedVariables false

theorem own : ownKnob Try.prog.godebug = none := by kernel_rfl

def nums : List Int := [0, 1, 2, 3, 4, 5, 6, 7, 8, 9, 10, 11, 12, 6, 30, 8, 100, 1000000, 6, 1000000, 1, 2, 3, 4, 5, 1, 2, 3, 6, 1000, 6, 1000, 4, 100, 40, 6, 30, 1000000000, 10, 1000000, 4, 100, 12, 1000000, 6, 20, 8, 64, 4000, 8, 60, 4096, 1, 2, 3, 4, 5, 6, 7]

theorem equal_nums (w : World) :
    Calls Try.prog 8 #[.slice (some ⟨w.heap.size, 0, none⟩) 59 59, .slice (some ⟨w.heap.size + 1, 0, none⟩) 59 59]
      ((w.alloc (.cells (Fm.I nums).toArray 3)).alloc (.cells (Fm.I nums).toArray 3)) fun e w' => e = .returned (.bool true) ∧ ∃ q, w' = ((w.alloc (.cells (Fm.I nums).toArray 3)).alloc (.cells (Fm.I nums).toArray 3)).drewN q := by
  have h := Try.slices_Equal_int w.heap.size 0 59 59 (w.heap.size + 1) 0 59 59 nums nums ((w.alloc (.cells (Fm.I nums).toArray 3)).alloc (.cells (Fm.I nums).toArray 3)) (by decide) (by decide) (by omega) (by omega)
    (fun j hj => by
      rw [World.cell?_alloc_lt _ _ _ (by simp), Nat.zero_add, World.cell?_alloc_new]
      simp [hj, Fm.I])
    (fun j hj => by
      have e : w.heap.size + 1 = (w.alloc (.cells (Fm.I nums).toArray 3)).heap.size := by simp
      rw [Nat.zero_add, e, World.cell?_alloc_new]
      simp [hj, Fm.I])
  simpa using h

set_option maxHeartbeats 1000000 in
theorem walk (w : World) : Calls Try.prog 3 #[] w fun e w' => e = .returned (.bool true) ∧ Grown w w' := by
  go_enter Try.func3, Try.ntmps3
  go_wp2_with fail
  refine (equal_nums w).mono ?_
  rintro e w' ⟨rfl, q, rfl⟩
  go_wp2
  go_ret
  exact ⟨rfl, Grown.alloc (Grown.alloc (Grown.refl w) _ _) _ _⟩

set_option maxRecDepth 100000 in
theorem lifted (os : Os) (started : os.Started) (H : Type) (enc : TypeId × Value → H) :
    ReturnsInHanded {} Try.checked os 3 .any (Rows.namesSpec.pre6 enc Try.prog Try.f3 Rows.namesRow.domain false) (Rows.namesSpec.post enc Try.prog Try.f3 false true false false) := by
  refine returnsInHanded_of_change (C := Try.checked) own started (by kernel_rfl) Try.func3
    (ChangeSpec.witness6 (enc := enc) (C := Try.checked) false ⟨#[], #[], []⟩ 8 (by kernel_rfl) (by kernel_rfl) (by kernel_rfl) (by kernel_rfl)) ?_
  intro W base args ds gs before hval0 hW hcnd _
  have hval : ∀ (j : Nat) t v, Try.f3.params[j]? = some t → args[j]? = some v → Value.okWide Try.prog W .any base t v := hval0
  have hW' := hW
  obtain ⟨p, q, hA0, hV, rfl, hfz, hnd⟩ := hW
  have hA : DataW.TrodAll enc Try.prog W 0 (fun _ => true) true Try.f3.params.toList args.toList ds p := hA0
  rw [Try.params3] at hA hval
  obtain ⟨rfl, rfl, rfl⟩ := trodAll_none hA
  obtain ⟨rfl, rfl⟩ := trodVars_none hV
  clear hA0 hval0
  simp only [List.append_nil] at hW'
  refine (walk W).mono fun e W' ⟨he, hg⟩ => ?_
  subst he
  exact ⟨_, rfl, post_of_same (pa := []) (pv := []) hW' (fun _ _ _ => (trodAll_cons_mk (shut_bool Try.underlying4 _) trodAll_mk0)) (fun sp _ => rfl) (fun _ _ => rfl) rfl
    (hg.frame _) hg.2.1 (ok_one (by kernel_rfl) rfl (okWide_bool_mk Try.underlying4 _))⟩

theorem over : Rows.namesRow.holds Try.pinned (OpenSpec.ofChange Rows.namesSpec) :=
  OpenClaim.holds_of_wide 3 Try.f3 rfl rfl rfl rfl rfl rfl rfl ⟨rfl, rfl, rfl, rfl, rfl⟩ rfl rfl rfl rfl rfl (by kernel_rfl) Try.func3 (by kernel_rfl)
    (of_decide_eq_true (by kernel_rfl)) (by unfold Func.isWrapper; first | (rw [if_pos (by decide +kernel)]; kernel_rfl) | (rw [if_neg (by decide +kernel)]; exact ⟨rfl, rfl⟩))
    (fun os started H enc _ => lifted os started H enc)

end Go.Proofs.Ytdbejalcedpdjaa.names
namespace Go.Proofs.Ytdbejalcedpdjaa
/-- The statement. -/
theorem names_holds : Rows.NamesSaid := names.over
end Go.Proofs.Ytdbejalcedpdjaa

/-
  No cell of these rows narrows 'for every input' (looked for: loops, veiled, ifaces, maps, wideKeys, modest, calm, conditions, laid).
  DERIVED. THE GIVEN ROWS OF THIS SEAT. 6 by the template 'for every input the law returns true; each argument reads behind the call as it read before'; 0 by the template 'total and deterministic' (their statements: YtimjepakdldacaaTotals.lean).
  GIVEN WITH THE SEED: the statements are not yours to turn. If you find one false, say at which input.
  Laid BY PROGRAM, IN A SANDBOX (cutbox-rows.mjs): the forced cells as the released guide's own fill.sh prints them over the translation a6b0d6ea64c88547… (all of the seat's roots in one cut). By AI agents, Wed Nov 11 2026. No macro, syntax, notation, axiom, sorry.
-/
import Derived.Test.YtimjepakdldacaaChecked
import GoSem.Claim
import GoSem.ClaimJoined
import GoSem.ClaimMapViews
import Derived.JoinedTies
import Derived.KernelRfl
namespace Go.Proofs.Ytimjepakdldacaa
/- THE CELL 'sum', in the pinned program and in every row, IS THE sha256 OF THE DUMP (.gsa) THAT YtimjepakdldacaaProg.lean LOADS. Nothing in Lean hashes anything: it is a label: what it is worth is what the hold of that sum in a sandbox is worth. -/
noncomputable def Try.pinned : Pinned := { name := "ytimjepakdldacaa", sum := "a6b0d6ea64c885470c30c50d1f488b5bbbace3fee879bc341a3fca7ec52ea2a5", checked := Try.checked }
namespace Rows
def none {H : Type} : Left H := { results := [], args := [] }

/-- 'plumelaw.EquilSays': WHATEVER THE INPUT: true; the input reads as it did. -/
def equilSaysSpec : ChangeSpec := { name := "equilSays", fn := fun _ => fun
  | [d1, d2] => { results := [.lit (.bool true)], args := [d1, d2] }
  | _ => none }
def equilSaysRow : OpenClaim := { program := "ytimjepakdldacaa", sum := "a6b0d6ea64c885470c30c50d1f488b5bbbace3fee879bc341a3fca7ec52ea2a5", func := "feathermark/plumelaw.EquilSays", spec := "equilSays", unfollowed := true, recurses := true, apart := false }
def EquilSaysSaid : Prop := equilSaysRow.holds Try.pinned (OpenSpec.ofChange equilSaysSpec)

/-- ITS FALSE NEIGHBOUR: 'it returns false'. Refute it at one input. -/
def equilSaysWrong : ChangeSpec := { name := "equilSays", fn := fun _ => fun
  | [d1, d2] => { results := [.lit (.bool false)], args := [d1, d2] }
  | _ => none }
def EquilSaysWrongFalsely : Prop := equilSaysRow.holds Try.pinned (OpenSpec.ofChange equilSaysWrong)

/-- 'plumekeep.EquilRest': WHATEVER THE INPUT: true; the input reads as it did. -/
def equilRestSpec : ChangeSpec := { name := "equilRest", fn := fun _ => fun
  | [d1, d2] => { results := [.lit (.bool true)], args := [d1, d2] }
  | _ => none }
def equilRestRow : OpenClaim := { program := "ytimjepakdldacaa", sum := "a6b0d6ea64c885470c30c50d1f488b5bbbace3fee879bc341a3fca7ec52ea2a5", func := "feathermark/plumekeep.EquilRest", spec := "equilRest", unfollowed := true, recurses := true, apart := false }
def EquilRestSaid : Prop := equilRestRow.holds Try.pinned (OpenSpec.ofChange equilRestSpec)

/-- ITS FALSE NEIGHBOUR: 'it returns false'. Refute it at one input. -/
def equilRestWrong : ChangeSpec := { name := "equilRest", fn := fun _ => fun
  | [d1, d2] => { results := [.lit (.bool false)], args := [d1, d2] }
  | _ => none }
def EquilRestWrongFalsely : Prop := equilRestRow.holds Try.pinned (OpenSpec.ofChange equilRestWrong)

/-- 'plumekeep.EquilZero': WHATEVER THE INPUT: true; the input reads as it did. -/
def equilZeroSpec : ChangeSpec := { name := "equilZero", fn := fun _ => fun
  | [d] => { results := [.lit (.bool true)], args := [d] }
  | _ => none }
def equilZeroRow : OpenClaim := { program := "ytimjepakdldacaa", sum := "a6b0d6ea64c885470c30c50d1f488b5bbbace3fee879bc341a3fca7ec52ea2a5", func := "feathermark/plumekeep.EquilZero", spec := "equilZero", unfollowed := true, recurses := true, apart := false }
def EquilZeroSaid : Prop := equilZeroRow.holds Try.pinned (OpenSpec.ofChange equilZeroSpec)

/-- ITS FALSE NEIGHBOUR: 'it returns false'. Refute it at one input. -/
def equilZeroWrong : ChangeSpec := { name := "equilZero", fn := fun _ => fun
  | [d] => { results := [.lit (.bool false)], args := [d] }
  | _ => none }
def EquilZeroWrongFalsely : Prop := equilZeroRow.holds Try.pinned (OpenSpec.ofChange equilZeroWrong)

/-- 'plumekeep.EquilLeft': WHATEVER THE INPUT: true; the input reads as it did. -/
def equilLeftSpec : ChangeSpec := { name := "equilLeft", fn := fun _ => fun
  | [d1, d2] => { results := [.lit (.bool true)], args := [d1, d2] }
  | _ => none }
def equilLeftRow : OpenClaim := { program := "ytimjepakdldacaa", sum := "a6b0d6ea64c885470c30c50d1f488b5bbbace3fee879bc341a3fca7ec52ea2a5", func := "feathermark/plumekeep.EquilLeft", spec := "equilLeft", unfollowed := true, recurses := true, apart := false }
def EquilLeftSaid : Prop := equilLeftRow.holds Try.pinned (OpenSpec.ofChange equilLeftSpec)

/-- ITS FALSE NEIGHBOUR: 'it returns false'. Refute it at one input. -/
def equilLeftWrong : ChangeSpec := { name := "equilLeft", fn := fun _ => fun
  | [d1, d2] => { results := [.lit (.bool false)], args := [d1, d2] }
  | _ => none }
def EquilLeftWrongFalsely : Prop := equilLeftRow.holds Try.pinned (OpenSpec.ofChange equilLeftWrong)

/-- 'plumekeep.EquilTeam': WHATEVER THE INPUT: true; the input reads as it did. -/
def equilTeamSpec : ChangeSpec := { name := "equilTeam", fn := fun _ => fun
  | [d] => { results := [.lit (.bool true)], args := [d] }
  | _ => none }
def equilTeamRow : OpenClaim := { program := "ytimjepakdldacaa", sum := "a6b0d6ea64c885470c30c50d1f488b5bbbace3fee879bc341a3fca7ec52ea2a5", func := "feathermark/plumekeep.EquilTeam", spec := "equilTeam", unfollowed := true, recurses := true, apart := false }
def EquilTeamSaid : Prop := equilTeamRow.holds Try.pinned (OpenSpec.ofChange equilTeamSpec)

/-- ITS FALSE NEIGHBOUR: 'it returns false'. Refute it at one input. -/
def equilTeamWrong : ChangeSpec := { name := "equilTeam", fn := fun _ => fun
  | [d] => { results := [.lit (.bool false)], args := [d] }
  | _ => none }
def EquilTeamWrongFalsely : Prop := equilTeamRow.holds Try.pinned (OpenSpec.ofChange equilTeamWrong)

/-- 'plumetop.TopValue': WHATEVER THE INPUT: true; the input reads as it did. -/
def topValueSpec : ChangeSpec := { name := "topValue", fn := fun _ => fun
  | [d] => { results := [.lit (.bool true)], args := [d] }
  | _ => none }
def topValueRow : OpenClaim := { program := "ytimjepakdldacaa", sum := "a6b0d6ea64c885470c30c50d1f488b5bbbace3fee879bc341a3fca7ec52ea2a5", func := "feathermark/plumetop.TopValue", spec := "topValue", unfollowed := true, recurses := true, apart := false }
def TopValueSaid : Prop := topValueRow.holds Try.pinned (OpenSpec.ofChange topValueSpec)

/-- ITS FALSE NEIGHBOUR: 'it returns false'. Refute it at one input. -/
def topValueWrong : ChangeSpec := { name := "topValue", fn := fun _ => fun
  | [d] => { results := [.lit (.bool false)], args := [d] }
  | _ => none }
def TopValueWrongFalsely : Prop := topValueRow.holds Try.pinned (OpenSpec.ofChange topValueWrong)

/- THE SECOND FORM. 'bulk': how many values and letters a reading holds, each counted each time it is reached (what is shared counts as often as it is met; a slice's spare places count too). A statement '..UptoSaid' is the law's where the arguments, and the package variables that the reading takes, are together of bulk at most 1048576: NARROWER than '..Said'. Prove '..Said' where nothing that the law and all that it calls make is longer than what came in: it says more and counts as full. Else prove '..UptoSaid'. A law counts once. -/
mutual
def uptoBulk {H : Type} : DataW H → Nat
  | .lit (.string bytes) => bytes.length + 1
  | .lit _ => 1
  | .nil => 1
  | .ptr d => uptoBulk d + 1
  | .slice elems spare => uptoBulkAll elems + uptoBulkAll spare + 1
  | .agg parts => uptoBulkAll parts + 1
  | .iface _ d => uptoBulk d + 1
  | .map entries => uptoBulkEntries entries + 1
  | .held _ => 1
def uptoBulkAll {H : Type} : List (DataW H) → Nat
  | [] => 0
  | d :: r => uptoBulk d + uptoBulkAll r
def uptoBulkEntries {H : Type} : List (Lit × DataW H) → Nat
  | [] => 0
  | x :: r => uptoBulkEntry x + uptoBulkEntries r
def uptoBulkEntry {H : Type} : Lit × DataW H → Nat
  | (.string bytes, d) => bytes.length + uptoBulk d + 1
  | (_, d) => uptoBulk d + 1
 end
def uptoSmall : (H : Type) → List (DataW H) → Bool := fun _ ds => decide (uptoBulkAll ds ≤ 1048576)
def OpenSpec.upto (s : _root_.Go.ChangeSpec) : _root_.Go.OpenSpec := { _root_.Go.OpenSpec.ofChange s with cond := some uptoSmall }

/-- 'plumelaw.EquilSays', WHERE WHAT IT READS IS OF BULK AT MOST 1048576: true; the input reads as it did. -/
def equilSaysUptoRow : OpenClaim := { program := "ytimjepakdldacaa", sum := "a6b0d6ea64c885470c30c50d1f488b5bbbace3fee879bc341a3fca7ec52ea2a5", func := "feathermark/plumelaw.EquilSays", spec := "equilSays", unfollowed := true, recurses := true, apart := false, narrowed := true }
def EquilSaysUptoSaid : Prop := equilSaysUptoRow.holds Try.pinned (OpenSpec.upto equilSaysSpec)

/-- 'plumekeep.EquilRest', WHERE WHAT IT READS IS OF BULK AT MOST 1048576: true; the input reads as it did. -/
def equilRestUptoRow : OpenClaim := { program := "ytimjepakdldacaa", sum := "a6b0d6ea64c885470c30c50d1f488b5bbbace3fee879bc341a3fca7ec52ea2a5", func := "feathermark/plumekeep.EquilRest", spec := "equilRest", unfollowed := true, recurses := true, apart := false, narrowed := true }
def EquilRestUptoSaid : Prop := equilRestUptoRow.holds Try.pinned (OpenSpec.upto equilRestSpec)

/-- 'plumekeep.EquilZero', WHERE WHAT IT READS IS OF BULK AT MOST 1048576: true; the input reads as it did. -/
def equilZeroUptoRow : OpenClaim := { program := "ytimjepakdldacaa", sum := "a6b0d6ea64c885470c30c50d1f488b5bbbace3fee879bc341a3fca7ec52ea2a5", func := "feathermark/plumekeep.EquilZero", spec := "equilZero", unfollowed := true, recurses := true, apart := false, narrowed := true }
def EquilZeroUptoSaid : Prop := equilZeroUptoRow.holds Try.pinned (OpenSpec.upto equilZeroSpec)

/-- 'plumekeep.EquilLeft', WHERE WHAT IT READS IS OF BULK AT MOST 1048576: true; the input reads as it did. -/
def equilLeftUptoRow : OpenClaim := { program := "ytimjepakdldacaa", sum := "a6b0d6ea64c885470c30c50d1f488b5bbbace3fee879bc341a3fca7ec52ea2a5", func := "feathermark/plumekeep.EquilLeft", spec := "equilLeft", unfollowed := true, recurses := true, apart := false, narrowed := true }
def EquilLeftUptoSaid : Prop := equilLeftUptoRow.holds Try.pinned (OpenSpec.upto equilLeftSpec)

/-- 'plumekeep.EquilTeam', WHERE WHAT IT READS IS OF BULK AT MOST 1048576: true; the input reads as it did. -/
def equilTeamUptoRow : OpenClaim := { program := "ytimjepakdldacaa", sum := "a6b0d6ea64c885470c30c50d1f488b5bbbace3fee879bc341a3fca7ec52ea2a5", func := "feathermark/plumekeep.EquilTeam", spec := "equilTeam", unfollowed := true, recurses := true, apart := false, narrowed := true }
def EquilTeamUptoSaid : Prop := equilTeamUptoRow.holds Try.pinned (OpenSpec.upto equilTeamSpec)

/-- 'plumetop.TopValue', WHERE WHAT IT READS IS OF BULK AT MOST 1048576: true; the input reads as it did. -/
def topValueUptoRow : OpenClaim := { program := "ytimjepakdldacaa", sum := "a6b0d6ea64c885470c30c50d1f488b5bbbace3fee879bc341a3fca7ec52ea2a5", func := "feathermark/plumetop.TopValue", spec := "topValue", unfollowed := true, recurses := true, apart := false, narrowed := true }
def TopValueUptoSaid : Prop := topValueUptoRow.holds Try.pinned (OpenSpec.upto topValueSpec)

end Rows
end Go.Proofs.Ytimjepakdldacaa

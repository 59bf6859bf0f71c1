/-
  No cell of these rows narrows 'for every input' (looked for: loops, veiled, ifaces, maps, wideKeys, modest, calm, conditions, laid).
  DERIVED. THE GIVEN ROWS OF THIS SEAT. 5 by the template 'for every input the law returns true; each argument reads behind the call as it read before'; 0 by the template 'total and deterministic' (their statements: YtammnnhdhdeogaaTotals.lean).
  GIVEN WITH THE SEED: the statements are not yours to turn. If you find one false, say at which input.
  Laid BY PROGRAM, IN A SANDBOX (cutbox-rows.mjs): the forced cells as the released guide's own fill.sh prints them over the translation 581ed5a37f6c224e… (all of the seat's roots in one cut). By AI agents, Wed Nov 11 2026. No macro, syntax, notation, axiom, sorry.
-/
import Derived.Test.YtammnnhdhdeogaaChecked
import GoSem.Claim
import GoSem.ClaimJoined
import GoSem.ClaimMapViews
import Derived.JoinedTies
import Derived.KernelRfl
namespace Go.Proofs.Ytammnnhdhdeogaa
/- THE CELL 'sum', in the pinned program and in every row, IS THE sha256 OF THE DUMP (.gsa) THAT YtammnnhdhdeogaaProg.lean LOADS. Nothing in Lean hashes anything: it is a label: what it is worth is what the hold of that sum in a sandbox is worth. -/
noncomputable def Try.pinned : Pinned := { name := "ytammnnhdhdeogaa", sum := "581ed5a37f6c224e64d831a64e25a8fa827c67221d0edb6b01a1715395bb8685", checked := Try.checked }
namespace Rows
def none {H : Type} : Left H := { results := [], args := [] }

/-- 'plumelaw.TallySays': WHATEVER THE INPUT: true; the input reads as it did. -/
def tallySaysSpec : ChangeSpec := { name := "tallySays", fn := fun _ => fun
  | [d1, d2] => { results := [.lit (.bool true)], args := [d1, d2] }
  | _ => none }
def tallySaysRow : OpenClaim := { program := "ytammnnhdhdeogaa", sum := "581ed5a37f6c224e64d831a64e25a8fa827c67221d0edb6b01a1715395bb8685", func := "feathermark/plumelaw.TallySays", spec := "tallySays", unfollowed := true, recurses := true, apart := false }
def TallySaysSaid : Prop := tallySaysRow.holds Try.pinned (OpenSpec.ofChange tallySaysSpec)

/-- ITS FALSE NEIGHBOUR: 'it returns false'. Refute it at one input. -/
def tallySaysWrong : ChangeSpec := { name := "tallySays", fn := fun _ => fun
  | [d1, d2] => { results := [.lit (.bool false)], args := [d1, d2] }
  | _ => none }
def TallySaysWrongFalsely : Prop := tallySaysRow.holds Try.pinned (OpenSpec.ofChange tallySaysWrong)

/-- 'plumekeep.TallySums': WHATEVER THE INPUT: true; the input reads as it did. -/
def tallySumsSpec : ChangeSpec := { name := "tallySums", fn := fun _ => fun
  | [d1, d2] => { results := [.lit (.bool true)], args := [d1, d2] }
  | _ => none }
def tallySumsRow : OpenClaim := { program := "ytammnnhdhdeogaa", sum := "581ed5a37f6c224e64d831a64e25a8fa827c67221d0edb6b01a1715395bb8685", func := "feathermark/plumekeep.TallySums", spec := "tallySums", unfollowed := true, recurses := true, apart := false }
def TallySumsSaid : Prop := tallySumsRow.holds Try.pinned (OpenSpec.ofChange tallySumsSpec)

/-- ITS FALSE NEIGHBOUR: 'it returns false'. Refute it at one input. -/
def tallySumsWrong : ChangeSpec := { name := "tallySums", fn := fun _ => fun
  | [d1, d2] => { results := [.lit (.bool false)], args := [d1, d2] }
  | _ => none }
def TallySumsWrongFalsely : Prop := tallySumsRow.holds Try.pinned (OpenSpec.ofChange tallySumsWrong)

/-- 'plumekeep.TallyBeater': WHATEVER THE INPUT: true; the input reads as it did. -/
def tallyBeaterSpec : ChangeSpec := { name := "tallyBeater", fn := fun _ => fun
  | [d1, d2] => { results := [.lit (.bool true)], args := [d1, d2] }
  | _ => none }
def tallyBeaterRow : OpenClaim := { program := "ytammnnhdhdeogaa", sum := "581ed5a37f6c224e64d831a64e25a8fa827c67221d0edb6b01a1715395bb8685", func := "feathermark/plumekeep.TallyBeater", spec := "tallyBeater", unfollowed := true, recurses := true, apart := false }
def TallyBeaterSaid : Prop := tallyBeaterRow.holds Try.pinned (OpenSpec.ofChange tallyBeaterSpec)

/-- ITS FALSE NEIGHBOUR: 'it returns false'. Refute it at one input. -/
def tallyBeaterWrong : ChangeSpec := { name := "tallyBeater", fn := fun _ => fun
  | [d1, d2] => { results := [.lit (.bool false)], args := [d1, d2] }
  | _ => none }
def TallyBeaterWrongFalsely : Prop := tallyBeaterRow.holds Try.pinned (OpenSpec.ofChange tallyBeaterWrong)

/-- 'plumekeep.TallyNames': WHATEVER THE INPUT: true; the input reads as it did. -/
def tallyNamesSpec : ChangeSpec := { name := "tallyNames", fn := fun _ => fun
  | [d1, d2, d3] => { results := [.lit (.bool true)], args := [d1, d2, d3] }
  | _ => none }
def tallyNamesRow : OpenClaim := { program := "ytammnnhdhdeogaa", sum := "581ed5a37f6c224e64d831a64e25a8fa827c67221d0edb6b01a1715395bb8685", func := "feathermark/plumekeep.TallyNames", spec := "tallyNames", unfollowed := true, recurses := true, apart := false }
def TallyNamesSaid : Prop := tallyNamesRow.holds Try.pinned (OpenSpec.ofChange tallyNamesSpec)

/-- ITS FALSE NEIGHBOUR: 'it returns false'. Refute it at one input. -/
def tallyNamesWrong : ChangeSpec := { name := "tallyNames", fn := fun _ => fun
  | [d1, d2, d3] => { results := [.lit (.bool false)], args := [d1, d2, d3] }
  | _ => none }
def TallyNamesWrongFalsely : Prop := tallyNamesRow.holds Try.pinned (OpenSpec.ofChange tallyNamesWrong)

/-- 'plumekeep.TallyTurned': WHATEVER THE INPUT: true; the input reads as it did. -/
def tallyTurnedSpec : ChangeSpec := { name := "tallyTurned", fn := fun _ => fun
  | [d1, d2] => { results := [.lit (.bool true)], args := [d1, d2] }
  | _ => none }
def tallyTurnedRow : OpenClaim := { program := "ytammnnhdhdeogaa", sum := "581ed5a37f6c224e64d831a64e25a8fa827c67221d0edb6b01a1715395bb8685", func := "feathermark/plumekeep.TallyTurned", spec := "tallyTurned", unfollowed := true, recurses := true, apart := false }
def TallyTurnedSaid : Prop := tallyTurnedRow.holds Try.pinned (OpenSpec.ofChange tallyTurnedSpec)

/-- ITS FALSE NEIGHBOUR: 'it returns false'. Refute it at one input. -/
def tallyTurnedWrong : ChangeSpec := { name := "tallyTurned", fn := fun _ => fun
  | [d1, d2] => { results := [.lit (.bool false)], args := [d1, d2] }
  | _ => none }
def TallyTurnedWrongFalsely : Prop := tallyTurnedRow.holds Try.pinned (OpenSpec.ofChange tallyTurnedWrong)

/- THE SECOND FORM. 'bulk': how many values and letters a reading holds, each counted each time it is reached (what is shared counts as often as it is met; a slice's spare places count too). A statement '..UptoSaid' is the law's where the arguments, and the package variables that the reading takes, are together of bulk at most 1048576: NARROWER than '..Said'. Prove '..Said' where nothing that the law and all that it calls make is longer than what came in: it says more and counts as full. Else prove '..UptoSaid'. A law counts once. -/
mutual
def uptoBulk {H : Type} : DataW H → Nat
  | .lit (.string bytes) => bytes.length + 1
  | .lit _ => 1
  | .nil => 1
  | .ptr d => uptoBulk d + 1
  | .slice elems spare => uptoBulkAll elems + uptoBulkAll spare + 1
  | .agg parts => uptoBulkAll parts + 1
  | .iface _ d => uptoBulk d + 1
  | .map entries => uptoBulkEntries entries + 1
  | .held _ => 1
def uptoBulkAll {H : Type} : List (DataW H) → Nat
  | [] => 0
  | d :: r => uptoBulk d + uptoBulkAll r
def uptoBulkEntries {H : Type} : List (Lit × DataW H) → Nat
  | [] => 0
  | x :: r => uptoBulkEntry x + uptoBulkEntries r
def uptoBulkEntry {H : Type} : Lit × DataW H → Nat
  | (.string bytes, d) => bytes.length + uptoBulk d + 1
  | (_, d) => uptoBulk d + 1
 end
def uptoSmall : (H : Type) → List (DataW H) → Bool := fun _ ds => decide (uptoBulkAll ds ≤ 1048576)
def OpenSpec.upto (s : _root_.Go.ChangeSpec) : _root_.Go.OpenSpec := { _root_.Go.OpenSpec.ofChange s with cond := some uptoSmall }

/-- 'plumelaw.TallySays', WHERE WHAT IT READS IS OF BULK AT MOST 1048576: true; the input reads as it did. -/
def tallySaysUptoRow : OpenClaim := { program := "ytammnnhdhdeogaa", sum := "581ed5a37f6c224e64d831a64e25a8fa827c67221d0edb6b01a1715395bb8685", func := "feathermark/plumelaw.TallySays", spec := "tallySays", unfollowed := true, recurses := true, apart := false, narrowed := true }
def TallySaysUptoSaid : Prop := tallySaysUptoRow.holds Try.pinned (OpenSpec.upto tallySaysSpec)

/-- 'plumekeep.TallySums', WHERE WHAT IT READS IS OF BULK AT MOST 1048576: true; the input reads as it did. -/
def tallySumsUptoRow : OpenClaim := { program := "ytammnnhdhdeogaa", sum := "581ed5a37f6c224e64d831a64e25a8fa827c67221d0edb6b01a1715395bb8685", func := "feathermark/plumekeep.TallySums", spec := "tallySums", unfollowed := true, recurses := true, apart := false, narrowed := true }
def TallySumsUptoSaid : Prop := tallySumsUptoRow.holds Try.pinned (OpenSpec.upto tallySumsSpec)

/-- 'plumekeep.TallyBeater', WHERE WHAT IT READS IS OF BULK AT MOST 1048576: true; the input reads as it did. -/
def tallyBeaterUptoRow : OpenClaim := { program := "ytammnnhdhdeogaa", sum := "581ed5a37f6c224e64d831a64e25a8fa827c67221d0edb6b01a1715395bb8685", func := "feathermark/plumekeep.TallyBeater", spec := "tallyBeater", unfollowed := true, recurses := true, apart := false, narrowed := true }
def TallyBeaterUptoSaid : Prop := tallyBeaterUptoRow.holds Try.pinned (OpenSpec.upto tallyBeaterSpec)

/-- 'plumekeep.TallyNames', WHERE WHAT IT READS IS OF BULK AT MOST 1048576: true; the input reads as it did. -/
def tallyNamesUptoRow : OpenClaim := { program := "ytammnnhdhdeogaa", sum := "581ed5a37f6c224e64d831a64e25a8fa827c67221d0edb6b01a1715395bb8685", func := "feathermark/plumekeep.TallyNames", spec := "tallyNames", unfollowed := true, recurses := true, apart := false, narrowed := true }
def TallyNamesUptoSaid : Prop := tallyNamesUptoRow.holds Try.pinned (OpenSpec.upto tallyNamesSpec)

/-- 'plumekeep.TallyTurned', WHERE WHAT IT READS IS OF BULK AT MOST 1048576: true; the input reads as it did. -/
def tallyTurnedUptoRow : OpenClaim := { program := "ytammnnhdhdeogaa", sum := "581ed5a37f6c224e64d831a64e25a8fa827c67221d0edb6b01a1715395bb8685", func := "feathermark/plumekeep.TallyTurned", spec := "tallyTurned", unfollowed := true, recurses := true, apart := false, narrowed := true }
def TallyTurnedUptoSaid : Prop := tallyTurnedUptoRow.holds Try.pinned (OpenSpec.upto tallyTurnedSpec)

end Rows
end Go.Proofs.Ytammnnhdhdeogaa

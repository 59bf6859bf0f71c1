/-
  No cell of these rows narrows 'for every input' (looked for: loops, veiled, ifaces, maps, wideKeys, modest, calm, conditions, laid).
  DERIVED. THE GIVEN ROWS OF THIS SEAT. 5 by the template 'for every input the law returns true; each argument reads behind the call as it read before'; 0 by the template 'total and deterministic' (their statements: YtilgoinbajmamaaTotals.lean).
  GIVEN WITH THE SEED: the statements are not yours to turn. If you find one false, say at which input.
  Laid BY PROGRAM, IN A SANDBOX (cutbox-rows.mjs): the forced cells as the released guide's own fill.sh prints them over the translation 0fce68450538f9ab… (all of the seat's roots in one cut). By AI agents, Wed Nov 11 2026. No macro, syntax, notation, axiom, sorry.
-/
import Derived.Test.YtilgoinbajmamaaChecked
import GoSem.Claim
import GoSem.ClaimJoined
import GoSem.ClaimMapViews
import Derived.JoinedTies
import Derived.KernelRfl
namespace Go.Proofs.Ytilgoinbajmamaa
/- THE CELL 'sum', in the pinned program and in every row, IS THE sha256 OF THE DUMP (.gsa) THAT YtilgoinbajmamaaProg.lean LOADS. Nothing in Lean hashes anything: it is a label: what it is worth is what the hold of that sum in a sandbox is worth. -/
noncomputable def Try.pinned : Pinned := { name := "ytilgoinbajmamaa", sum := "0fce68450538f9ab24f5b7f75615fdf50d571775ba8cb536b4f6096df8af5a59", checked := Try.checked }
namespace Rows
def none {H : Type} : Left H := { results := [], args := [] }

/-- 'plumelaw.MixedSays': WHATEVER THE INPUT: true; the input reads as it did. -/
def mixedSaysSpec : ChangeSpec := { name := "mixedSays", fn := fun _ => fun
  | [d] => { results := [.lit (.bool true)], args := [d] }
  | _ => none }
def mixedSaysRow : OpenClaim := { program := "ytilgoinbajmamaa", sum := "0fce68450538f9ab24f5b7f75615fdf50d571775ba8cb536b4f6096df8af5a59", func := "feathermark/plumelaw.MixedSays", spec := "mixedSays", unfollowed := true, recurses := true, apart := false }
def MixedSaysSaid : Prop := mixedSaysRow.holds Try.pinned (OpenSpec.ofChange mixedSaysSpec)

/-- ITS FALSE NEIGHBOUR: 'it returns false'. Refute it at one input. -/
def mixedSaysWrong : ChangeSpec := { name := "mixedSays", fn := fun _ => fun
  | [d] => { results := [.lit (.bool false)], args := [d] }
  | _ => none }
def MixedSaysWrongFalsely : Prop := mixedSaysRow.holds Try.pinned (OpenSpec.ofChange mixedSaysWrong)

/-- 'plumekeep.MixedBest': WHATEVER THE INPUT: true; the input reads as it did. -/
def mixedBestSpec : ChangeSpec := { name := "mixedBest", fn := fun _ => fun
  | [d1, d2, d3] => { results := [.lit (.bool true)], args := [d1, d2, d3] }
  | _ => none }
def mixedBestRow : OpenClaim := { program := "ytilgoinbajmamaa", sum := "0fce68450538f9ab24f5b7f75615fdf50d571775ba8cb536b4f6096df8af5a59", func := "feathermark/plumekeep.MixedBest", spec := "mixedBest", unfollowed := true, recurses := true, apart := false }
def MixedBestSaid : Prop := mixedBestRow.holds Try.pinned (OpenSpec.ofChange mixedBestSpec)

/-- ITS FALSE NEIGHBOUR: 'it returns false'. Refute it at one input. -/
def mixedBestWrong : ChangeSpec := { name := "mixedBest", fn := fun _ => fun
  | [d1, d2, d3] => { results := [.lit (.bool false)], args := [d1, d2, d3] }
  | _ => none }
def MixedBestWrongFalsely : Prop := mixedBestRow.holds Try.pinned (OpenSpec.ofChange mixedBestWrong)

/-- 'plumekeep.MixedOther': WHATEVER THE INPUT: true; the input reads as it did. -/
def mixedOtherSpec : ChangeSpec := { name := "mixedOther", fn := fun _ => fun
  | [d] => { results := [.lit (.bool true)], args := [d] }
  | _ => none }
def mixedOtherRow : OpenClaim := { program := "ytilgoinbajmamaa", sum := "0fce68450538f9ab24f5b7f75615fdf50d571775ba8cb536b4f6096df8af5a59", func := "feathermark/plumekeep.MixedOther", spec := "mixedOther", unfollowed := true, recurses := true, apart := false }
def MixedOtherSaid : Prop := mixedOtherRow.holds Try.pinned (OpenSpec.ofChange mixedOtherSpec)

/-- ITS FALSE NEIGHBOUR: 'it returns false'. Refute it at one input. -/
def mixedOtherWrong : ChangeSpec := { name := "mixedOther", fn := fun _ => fun
  | [d] => { results := [.lit (.bool false)], args := [d] }
  | _ => none }
def MixedOtherWrongFalsely : Prop := mixedOtherRow.holds Try.pinned (OpenSpec.ofChange mixedOtherWrong)

/-- 'plumekeep.MixedBounds': WHATEVER THE INPUT: true; the input reads as it did. -/
def mixedBoundsSpec : ChangeSpec := { name := "mixedBounds", fn := fun _ => fun
  | [d] => { results := [.lit (.bool true)], args := [d] }
  | _ => none }
def mixedBoundsRow : OpenClaim := { program := "ytilgoinbajmamaa", sum := "0fce68450538f9ab24f5b7f75615fdf50d571775ba8cb536b4f6096df8af5a59", func := "feathermark/plumekeep.MixedBounds", spec := "mixedBounds", unfollowed := true, recurses := true, apart := false }
def MixedBoundsSaid : Prop := mixedBoundsRow.holds Try.pinned (OpenSpec.ofChange mixedBoundsSpec)

/-- ITS FALSE NEIGHBOUR: 'it returns false'. Refute it at one input. -/
def mixedBoundsWrong : ChangeSpec := { name := "mixedBounds", fn := fun _ => fun
  | [d] => { results := [.lit (.bool false)], args := [d] }
  | _ => none }
def MixedBoundsWrongFalsely : Prop := mixedBoundsRow.holds Try.pinned (OpenSpec.ofChange mixedBoundsWrong)

/-- 'plumekeep.MixedMore': WHATEVER THE INPUT: true; the input reads as it did. -/
def mixedMoreSpec : ChangeSpec := { name := "mixedMore", fn := fun _ => fun
  | [d1, d2, d3] => { results := [.lit (.bool true)], args := [d1, d2, d3] }
  | _ => none }
def mixedMoreRow : OpenClaim := { program := "ytilgoinbajmamaa", sum := "0fce68450538f9ab24f5b7f75615fdf50d571775ba8cb536b4f6096df8af5a59", func := "feathermark/plumekeep.MixedMore", spec := "mixedMore", unfollowed := true, recurses := true, apart := false }
def MixedMoreSaid : Prop := mixedMoreRow.holds Try.pinned (OpenSpec.ofChange mixedMoreSpec)

/-- ITS FALSE NEIGHBOUR: 'it returns false'. Refute it at one input. -/
def mixedMoreWrong : ChangeSpec := { name := "mixedMore", fn := fun _ => fun
  | [d1, d2, d3] => { results := [.lit (.bool false)], args := [d1, d2, d3] }
  | _ => none }
def MixedMoreWrongFalsely : Prop := mixedMoreRow.holds Try.pinned (OpenSpec.ofChange mixedMoreWrong)

/- THE SECOND FORM. 'bulk': how many values and letters a reading holds, each counted each time it is reached (what is shared counts as often as it is met; a slice's spare places count too). A statement '..UptoSaid' is the law's where the arguments, and the package variables that the reading takes, are together of bulk at most 1048576: NARROWER than '..Said'. Prove '..Said' where nothing that the law and all that it calls make is longer than what came in: it says more and counts as full. Else prove '..UptoSaid'. A law counts once. -/
mutual
def uptoBulk {H : Type} : DataW H → Nat
  | .lit (.string bytes) => bytes.length + 1
  | .lit _ => 1
  | .nil => 1
  | .ptr d => uptoBulk d + 1
  | .slice elems spare => uptoBulkAll elems + uptoBulkAll spare + 1
  | .agg parts => uptoBulkAll parts + 1
  | .iface _ d => uptoBulk d + 1
  | .map entries => uptoBulkEntries entries + 1
  | .held _ => 1
def uptoBulkAll {H : Type} : List (DataW H) → Nat
  | [] => 0
  | d :: r => uptoBulk d + uptoBulkAll r
def uptoBulkEntries {H : Type} : List (Lit × DataW H) → Nat
  | [] => 0
  | x :: r => uptoBulkEntry x + uptoBulkEntries r
def uptoBulkEntry {H : Type} : Lit × DataW H → Nat
  | (.string bytes, d) => bytes.length + uptoBulk d + 1
  | (_, d) => uptoBulk d + 1
 end
def uptoSmall : (H : Type) → List (DataW H) → Bool := fun _ ds => decide (uptoBulkAll ds ≤ 1048576)
def OpenSpec.upto (s : _root_.Go.ChangeSpec) : _root_.Go.OpenSpec := { _root_.Go.OpenSpec.ofChange s with cond := some uptoSmall }

/-- 'plumelaw.MixedSays', WHERE WHAT IT READS IS OF BULK AT MOST 1048576: true; the input reads as it did. -/
def mixedSaysUptoRow : OpenClaim := { program := "ytilgoinbajmamaa", sum := "0fce68450538f9ab24f5b7f75615fdf50d571775ba8cb536b4f6096df8af5a59", func := "feathermark/plumelaw.MixedSays", spec := "mixedSays", unfollowed := true, recurses := true, apart := false, narrowed := true }
def MixedSaysUptoSaid : Prop := mixedSaysUptoRow.holds Try.pinned (OpenSpec.upto mixedSaysSpec)

/-- 'plumekeep.MixedBest', WHERE WHAT IT READS IS OF BULK AT MOST 1048576: true; the input reads as it did. -/
def mixedBestUptoRow : OpenClaim := { program := "ytilgoinbajmamaa", sum := "0fce68450538f9ab24f5b7f75615fdf50d571775ba8cb536b4f6096df8af5a59", func := "feathermark/plumekeep.MixedBest", spec := "mixedBest", unfollowed := true, recurses := true, apart := false, narrowed := true }
def MixedBestUptoSaid : Prop := mixedBestUptoRow.holds Try.pinned (OpenSpec.upto mixedBestSpec)

/-- 'plumekeep.MixedOther', WHERE WHAT IT READS IS OF BULK AT MOST 1048576: true; the input reads as it did. -/
def mixedOtherUptoRow : OpenClaim := { program := "ytilgoinbajmamaa", sum := "0fce68450538f9ab24f5b7f75615fdf50d571775ba8cb536b4f6096df8af5a59", func := "feathermark/plumekeep.MixedOther", spec := "mixedOther", unfollowed := true, recurses := true, apart := false, narrowed := true }
def MixedOtherUptoSaid : Prop := mixedOtherUptoRow.holds Try.pinned (OpenSpec.upto mixedOtherSpec)

/-- 'plumekeep.MixedBounds', WHERE WHAT IT READS IS OF BULK AT MOST 1048576: true; the input reads as it did. -/
def mixedBoundsUptoRow : OpenClaim := { program := "ytilgoinbajmamaa", sum := "0fce68450538f9ab24f5b7f75615fdf50d571775ba8cb536b4f6096df8af5a59", func := "feathermark/plumekeep.MixedBounds", spec := "mixedBounds", unfollowed := true, recurses := true, apart := false, narrowed := true }
def MixedBoundsUptoSaid : Prop := mixedBoundsUptoRow.holds Try.pinned (OpenSpec.upto mixedBoundsSpec)

/-- 'plumekeep.MixedMore', WHERE WHAT IT READS IS OF BULK AT MOST 1048576: true; the input reads as it did. -/
def mixedMoreUptoRow : OpenClaim := { program := "ytilgoinbajmamaa", sum := "0fce68450538f9ab24f5b7f75615fdf50d571775ba8cb536b4f6096df8af5a59", func := "feathermark/plumekeep.MixedMore", spec := "mixedMore", unfollowed := true, recurses := true, apart := false, narrowed := true }
def MixedMoreUptoSaid : Prop := mixedMoreUptoRow.holds Try.pinned (OpenSpec.upto mixedMoreSpec)

end Rows
end Go.Proofs.Ytilgoinbajmamaa

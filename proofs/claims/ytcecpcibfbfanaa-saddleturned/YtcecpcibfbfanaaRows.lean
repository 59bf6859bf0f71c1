/-
  No cell of these rows narrows 'for every input' (looked for: loops, veiled, ifaces, maps, wideKeys, modest, calm, conditions, laid).
  DERIVED. THE GIVEN ROWS OF THIS SEAT. 4 by the template 'for every input the law returns true; each argument reads behind the call as it read before'; 0 by the template 'total and deterministic' (their statements: YtcecpcibfbfanaaTotals.lean).
  GIVEN WITH THE SEED: the statements are not yours to turn. If you find one false, say at which input.
  Laid BY PROGRAM, IN A SANDBOX (cutbox-rows.mjs): the forced cells as the released guide's own fill.sh prints them over the translation ae902fa35950da06… (all of the seat's roots in one cut). By AI agents, Wed Nov 11 2026. No macro, syntax, notation, axiom, sorry.
-/
import Derived.Test.YtcecpcibfbfanaaChecked
import GoSem.Claim
import GoSem.ClaimJoined
import GoSem.ClaimMapViews
import Derived.JoinedTies
import Derived.KernelRfl
namespace Go.Proofs.Ytcecpcibfbfanaa
/- THE CELL 'sum', in the pinned program and in every row, IS THE sha256 OF THE DUMP (.gsa) THAT YtcecpcibfbfanaaProg.lean LOADS. Nothing in Lean hashes anything: it is a label: what it is worth is what the hold of that sum in a sandbox is worth. -/
noncomputable def Try.pinned : Pinned := { name := "ytcecpcibfbfanaa", sum := "ae902fa35950da069fc8cd4dce1e59217967b8a114c8b830f45d60ae065f6ac1", checked := Try.checked }
namespace Rows
def none {H : Type} : Left H := { results := [], args := [] }

/-- 'plumelaw.SaddleSays': WHATEVER THE INPUT: true; the input reads as it did. -/
def saddleSaysSpec : ChangeSpec := { name := "saddleSays", fn := fun _ => fun
  | [d] => { results := [.lit (.bool true)], args := [d] }
  | _ => none }
def saddleSaysRow : OpenClaim := { program := "ytcecpcibfbfanaa", sum := "ae902fa35950da069fc8cd4dce1e59217967b8a114c8b830f45d60ae065f6ac1", func := "feathermark/plumelaw.SaddleSays", spec := "saddleSays", unfollowed := true, recurses := true, apart := false }
def SaddleSaysSaid : Prop := saddleSaysRow.holds Try.pinned (OpenSpec.ofChange saddleSaysSpec)

/-- ITS FALSE NEIGHBOUR: 'it returns false'. Refute it at one input. -/
def saddleSaysWrong : ChangeSpec := { name := "saddleSays", fn := fun _ => fun
  | [d] => { results := [.lit (.bool false)], args := [d] }
  | _ => none }
def SaddleSaysWrongFalsely : Prop := saddleSaysRow.holds Try.pinned (OpenSpec.ofChange saddleSaysWrong)

/-- 'plumekeep.SaddleBounds': WHATEVER THE INPUT: true; the input reads as it did. -/
def saddleBoundsSpec : ChangeSpec := { name := "saddleBounds", fn := fun _ => fun
  | [d] => { results := [.lit (.bool true)], args := [d] }
  | _ => none }
def saddleBoundsRow : OpenClaim := { program := "ytcecpcibfbfanaa", sum := "ae902fa35950da069fc8cd4dce1e59217967b8a114c8b830f45d60ae065f6ac1", func := "feathermark/plumekeep.SaddleBounds", spec := "saddleBounds", unfollowed := true, recurses := true, apart := false }
def SaddleBoundsSaid : Prop := saddleBoundsRow.holds Try.pinned (OpenSpec.ofChange saddleBoundsSpec)

/-- ITS FALSE NEIGHBOUR: 'it returns false'. Refute it at one input. -/
def saddleBoundsWrong : ChangeSpec := { name := "saddleBounds", fn := fun _ => fun
  | [d] => { results := [.lit (.bool false)], args := [d] }
  | _ => none }
def SaddleBoundsWrongFalsely : Prop := saddleBoundsRow.holds Try.pinned (OpenSpec.ofChange saddleBoundsWrong)

/-- 'plumekeep.SaddleSwap': WHATEVER THE INPUT: true; the input reads as it did. -/
def saddleSwapSpec : ChangeSpec := { name := "saddleSwap", fn := fun _ => fun
  | [d1, d2, d3] => { results := [.lit (.bool true)], args := [d1, d2, d3] }
  | _ => none }
def saddleSwapRow : OpenClaim := { program := "ytcecpcibfbfanaa", sum := "ae902fa35950da069fc8cd4dce1e59217967b8a114c8b830f45d60ae065f6ac1", func := "feathermark/plumekeep.SaddleSwap", spec := "saddleSwap", unfollowed := true, recurses := true, apart := false }
def SaddleSwapSaid : Prop := saddleSwapRow.holds Try.pinned (OpenSpec.ofChange saddleSwapSpec)

/-- ITS FALSE NEIGHBOUR: 'it returns false'. Refute it at one input. -/
def saddleSwapWrong : ChangeSpec := { name := "saddleSwap", fn := fun _ => fun
  | [d1, d2, d3] => { results := [.lit (.bool false)], args := [d1, d2, d3] }
  | _ => none }
def SaddleSwapWrongFalsely : Prop := saddleSwapRow.holds Try.pinned (OpenSpec.ofChange saddleSwapWrong)

/-- 'plumekeep.SaddleTurned': WHATEVER THE INPUT: true; the input reads as it did. -/
def saddleTurnedSpec : ChangeSpec := { name := "saddleTurned", fn := fun _ => fun
  | [d] => { results := [.lit (.bool true)], args := [d] }
  | _ => none }
def saddleTurnedRow : OpenClaim := { program := "ytcecpcibfbfanaa", sum := "ae902fa35950da069fc8cd4dce1e59217967b8a114c8b830f45d60ae065f6ac1", func := "feathermark/plumekeep.SaddleTurned", spec := "saddleTurned", unfollowed := true, recurses := true, apart := false }
def SaddleTurnedSaid : Prop := saddleTurnedRow.holds Try.pinned (OpenSpec.ofChange saddleTurnedSpec)

/-- ITS FALSE NEIGHBOUR: 'it returns false'. Refute it at one input. -/
def saddleTurnedWrong : ChangeSpec := { name := "saddleTurned", fn := fun _ => fun
  | [d] => { results := [.lit (.bool false)], args := [d] }
  | _ => none }
def SaddleTurnedWrongFalsely : Prop := saddleTurnedRow.holds Try.pinned (OpenSpec.ofChange saddleTurnedWrong)

/- THE SECOND FORM. 'bulk': how many values and letters a reading holds, each counted each time it is reached (what is shared counts as often as it is met; a slice's spare places count too). A statement '..UptoSaid' is the law's where the arguments, and the package variables that the reading takes, are together of bulk at most 1048576: NARROWER than '..Said'. Prove '..Said' where nothing that the law and all that it calls make is longer than what came in: it says more and counts as full. Else prove '..UptoSaid'. A law counts once. -/
mutual
def uptoBulk {H : Type} : DataW H → Nat
  | .lit (.string bytes) => bytes.length + 1
  | .lit _ => 1
  | .nil => 1
  | .ptr d => uptoBulk d + 1
  | .slice elems spare => uptoBulkAll elems + uptoBulkAll spare + 1
  | .agg parts => uptoBulkAll parts + 1
  | .iface _ d => uptoBulk d + 1
  | .map entries => uptoBulkEntries entries + 1
  | .held _ => 1
def uptoBulkAll {H : Type} : List (DataW H) → Nat
  | [] => 0
  | d :: r => uptoBulk d + uptoBulkAll r
def uptoBulkEntries {H : Type} : List (Lit × DataW H) → Nat
  | [] => 0
  | x :: r => uptoBulkEntry x + uptoBulkEntries r
def uptoBulkEntry {H : Type} : Lit × DataW H → Nat
  | (.string bytes, d) => bytes.length + uptoBulk d + 1
  | (_, d) => uptoBulk d + 1
 end
def uptoSmall : (H : Type) → List (DataW H) → Bool := fun _ ds => decide (uptoBulkAll ds ≤ 1048576)
def OpenSpec.upto (s : _root_.Go.ChangeSpec) : _root_.Go.OpenSpec := { _root_.Go.OpenSpec.ofChange s with cond := some uptoSmall }

/-- 'plumelaw.SaddleSays', WHERE WHAT IT READS IS OF BULK AT MOST 1048576: true; the input reads as it did. -/
def saddleSaysUptoRow : OpenClaim := { program := "ytcecpcibfbfanaa", sum := "ae902fa35950da069fc8cd4dce1e59217967b8a114c8b830f45d60ae065f6ac1", func := "feathermark/plumelaw.SaddleSays", spec := "saddleSays", unfollowed := true, recurses := true, apart := false, narrowed := true }
def SaddleSaysUptoSaid : Prop := saddleSaysUptoRow.holds Try.pinned (OpenSpec.upto saddleSaysSpec)

/-- 'plumekeep.SaddleBounds', WHERE WHAT IT READS IS OF BULK AT MOST 1048576: true; the input reads as it did. -/
def saddleBoundsUptoRow : OpenClaim := { program := "ytcecpcibfbfanaa", sum := "ae902fa35950da069fc8cd4dce1e59217967b8a114c8b830f45d60ae065f6ac1", func := "feathermark/plumekeep.SaddleBounds", spec := "saddleBounds", unfollowed := true, recurses := true, apart := false, narrowed := true }
def SaddleBoundsUptoSaid : Prop := saddleBoundsUptoRow.holds Try.pinned (OpenSpec.upto saddleBoundsSpec)

/-- 'plumekeep.SaddleSwap', WHERE WHAT IT READS IS OF BULK AT MOST 1048576: true; the input reads as it did. -/
def saddleSwapUptoRow : OpenClaim := { program := "ytcecpcibfbfanaa", sum := "ae902fa35950da069fc8cd4dce1e59217967b8a114c8b830f45d60ae065f6ac1", func := "feathermark/plumekeep.SaddleSwap", spec := "saddleSwap", unfollowed := true, recurses := true, apart := false, narrowed := true }
def SaddleSwapUptoSaid : Prop := saddleSwapUptoRow.holds Try.pinned (OpenSpec.upto saddleSwapSpec)

/-- 'plumekeep.SaddleTurned', WHERE WHAT IT READS IS OF BULK AT MOST 1048576: true; the input reads as it did. -/
def saddleTurnedUptoRow : OpenClaim := { program := "ytcecpcibfbfanaa", sum := "ae902fa35950da069fc8cd4dce1e59217967b8a114c8b830f45d60ae065f6ac1", func := "feathermark/plumekeep.SaddleTurned", spec := "saddleTurned", unfollowed := true, recurses := true, apart := false, narrowed := true }
def SaddleTurnedUptoSaid : Prop := saddleTurnedUptoRow.holds Try.pinned (OpenSpec.upto saddleTurnedSpec)

end Rows
end Go.Proofs.Ytcecpcibfbfanaa

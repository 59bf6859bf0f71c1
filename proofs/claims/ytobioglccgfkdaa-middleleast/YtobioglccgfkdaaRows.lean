/-
  No cell of these rows narrows 'for every input' (looked for: loops, veiled, ifaces, maps, wideKeys, modest, calm, conditions, laid).
  DERIVED. THE GIVEN ROWS OF THIS SEAT. 4 by the template 'for every input the law returns true; each argument reads behind the call as it read before'; 0 by the template 'total and deterministic' (their statements: YtobioglccgfkdaaTotals.lean).
  GIVEN WITH THE SEED: the statements are not yours to turn. If you find one false, say at which input.
  Laid BY PROGRAM, IN A SANDBOX (cutbox-rows.mjs): the forced cells as the released guide's own fill.sh prints them over the translation 0962147a0a43b4ee… (all of the seat's roots in one cut). By AI agents, Wed Nov 11 2026. No macro, syntax, notation, axiom, sorry.
-/
import Derived.Test.YtobioglccgfkdaaChecked
import GoSem.Claim
import GoSem.ClaimJoined
import GoSem.ClaimMapViews
import Derived.JoinedTies
import Derived.KernelRfl
namespace Go.Proofs.Ytobioglccgfkdaa
/- THE CELL 'sum', in the pinned program and in every row, IS THE sha256 OF THE DUMP (.gsa) THAT YtobioglccgfkdaaProg.lean LOADS. Nothing in Lean hashes anything: it is a label: what it is worth is what the hold of that sum in a sandbox is worth. -/
noncomputable def Try.pinned : Pinned := { name := "ytobioglccgfkdaa", sum := "0962147a0a43b4ee0617da05a3318198cab96d52f24d80baaa9ea1bd2c09c496", checked := Try.checked }
namespace Rows
def none {H : Type} : Left H := { results := [], args := [] }

/-- 'plumelaw.MiddleSays': WHATEVER THE INPUT: true; the input reads as it did. -/
def middleSaysSpec : ChangeSpec := { name := "middleSays", fn := fun _ => fun
  | [d1, d2, d3] => { results := [.lit (.bool true)], args := [d1, d2, d3] }
  | _ => none }
def middleSaysRow : OpenClaim := { program := "ytobioglccgfkdaa", sum := "0962147a0a43b4ee0617da05a3318198cab96d52f24d80baaa9ea1bd2c09c496", func := "feathermark/plumelaw.MiddleSays", spec := "middleSays", unfollowed := true, recurses := true, apart := false }
def MiddleSaysSaid : Prop := middleSaysRow.holds Try.pinned (OpenSpec.ofChange middleSaysSpec)

/-- ITS FALSE NEIGHBOUR: 'it returns false'. Refute it at one input. -/
def middleSaysWrong : ChangeSpec := { name := "middleSays", fn := fun _ => fun
  | [d1, d2, d3] => { results := [.lit (.bool false)], args := [d1, d2, d3] }
  | _ => none }
def MiddleSaysWrongFalsely : Prop := middleSaysRow.holds Try.pinned (OpenSpec.ofChange middleSaysWrong)

/-- 'plumekeep.MiddleLeast': WHATEVER THE INPUT: true; the input reads as it did. -/
def middleLeastSpec : ChangeSpec := { name := "middleLeast", fn := fun _ => fun
  | [d1, d2, d3] => { results := [.lit (.bool true)], args := [d1, d2, d3] }
  | _ => none }
def middleLeastRow : OpenClaim := { program := "ytobioglccgfkdaa", sum := "0962147a0a43b4ee0617da05a3318198cab96d52f24d80baaa9ea1bd2c09c496", func := "feathermark/plumekeep.MiddleLeast", spec := "middleLeast", unfollowed := true, recurses := true, apart := false }
def MiddleLeastSaid : Prop := middleLeastRow.holds Try.pinned (OpenSpec.ofChange middleLeastSpec)

/-- ITS FALSE NEIGHBOUR: 'it returns false'. Refute it at one input. -/
def middleLeastWrong : ChangeSpec := { name := "middleLeast", fn := fun _ => fun
  | [d1, d2, d3] => { results := [.lit (.bool false)], args := [d1, d2, d3] }
  | _ => none }
def MiddleLeastWrongFalsely : Prop := middleLeastRow.holds Try.pinned (OpenSpec.ofChange middleLeastWrong)

/-- 'plumekeep.MiddleTop': WHATEVER THE INPUT: true; the input reads as it did. -/
def middleTopSpec : ChangeSpec := { name := "middleTop", fn := fun _ => fun
  | [d1, d2] => { results := [.lit (.bool true)], args := [d1, d2] }
  | _ => none }
def middleTopRow : OpenClaim := { program := "ytobioglccgfkdaa", sum := "0962147a0a43b4ee0617da05a3318198cab96d52f24d80baaa9ea1bd2c09c496", func := "feathermark/plumekeep.MiddleTop", spec := "middleTop", unfollowed := true, recurses := true, apart := false }
def MiddleTopSaid : Prop := middleTopRow.holds Try.pinned (OpenSpec.ofChange middleTopSpec)

/-- ITS FALSE NEIGHBOUR: 'it returns false'. Refute it at one input. -/
def middleTopWrong : ChangeSpec := { name := "middleTop", fn := fun _ => fun
  | [d1, d2] => { results := [.lit (.bool false)], args := [d1, d2] }
  | _ => none }
def MiddleTopWrongFalsely : Prop := middleTopRow.holds Try.pinned (OpenSpec.ofChange middleTopWrong)

/-- 'plumekeep.MiddleTurned': WHATEVER THE INPUT: true; the input reads as it did. -/
def middleTurnedSpec : ChangeSpec := { name := "middleTurned", fn := fun _ => fun
  | [d1, d2, d3] => { results := [.lit (.bool true)], args := [d1, d2, d3] }
  | _ => none }
def middleTurnedRow : OpenClaim := { program := "ytobioglccgfkdaa", sum := "0962147a0a43b4ee0617da05a3318198cab96d52f24d80baaa9ea1bd2c09c496", func := "feathermark/plumekeep.MiddleTurned", spec := "middleTurned", unfollowed := true, recurses := true, apart := false }
def MiddleTurnedSaid : Prop := middleTurnedRow.holds Try.pinned (OpenSpec.ofChange middleTurnedSpec)

/-- ITS FALSE NEIGHBOUR: 'it returns false'. Refute it at one input. -/
def middleTurnedWrong : ChangeSpec := { name := "middleTurned", fn := fun _ => fun
  | [d1, d2, d3] => { results := [.lit (.bool false)], args := [d1, d2, d3] }
  | _ => none }
def MiddleTurnedWrongFalsely : Prop := middleTurnedRow.holds Try.pinned (OpenSpec.ofChange middleTurnedWrong)

/- THE SECOND FORM. 'bulk': how many values and letters a reading holds, each counted each time it is reached (what is shared counts as often as it is met; a slice's spare places count too). A statement '..UptoSaid' is the law's where the arguments, and the package variables that the reading takes, are together of bulk at most 1048576: NARROWER than '..Said'. Prove '..Said' where nothing that the law and all that it calls make is longer than what came in: it says more and counts as full. Else prove '..UptoSaid'. A law counts once. -/
mutual
def uptoBulk {H : Type} : DataW H → Nat
  | .lit (.string bytes) => bytes.length + 1
  | .lit _ => 1
  | .nil => 1
  | .ptr d => uptoBulk d + 1
  | .slice elems spare => uptoBulkAll elems + uptoBulkAll spare + 1
  | .agg parts => uptoBulkAll parts + 1
  | .iface _ d => uptoBulk d + 1
  | .map entries => uptoBulkEntries entries + 1
  | .held _ => 1
def uptoBulkAll {H : Type} : List (DataW H) → Nat
  | [] => 0
  | d :: r => uptoBulk d + uptoBulkAll r
def uptoBulkEntries {H : Type} : List (Lit × DataW H) → Nat
  | [] => 0
  | x :: r => uptoBulkEntry x + uptoBulkEntries r
def uptoBulkEntry {H : Type} : Lit × DataW H → Nat
  | (.string bytes, d) => bytes.length + uptoBulk d + 1
  | (_, d) => uptoBulk d + 1
 end
def uptoSmall : (H : Type) → List (DataW H) → Bool := fun _ ds => decide (uptoBulkAll ds ≤ 1048576)
def OpenSpec.upto (s : _root_.Go.ChangeSpec) : _root_.Go.OpenSpec := { _root_.Go.OpenSpec.ofChange s with cond := some uptoSmall }

/-- 'plumelaw.MiddleSays', WHERE WHAT IT READS IS OF BULK AT MOST 1048576: true; the input reads as it did. -/
def middleSaysUptoRow : OpenClaim := { program := "ytobioglccgfkdaa", sum := "0962147a0a43b4ee0617da05a3318198cab96d52f24d80baaa9ea1bd2c09c496", func := "feathermark/plumelaw.MiddleSays", spec := "middleSays", unfollowed := true, recurses := true, apart := false, narrowed := true }
def MiddleSaysUptoSaid : Prop := middleSaysUptoRow.holds Try.pinned (OpenSpec.upto middleSaysSpec)

/-- 'plumekeep.MiddleLeast', WHERE WHAT IT READS IS OF BULK AT MOST 1048576: true; the input reads as it did. -/
def middleLeastUptoRow : OpenClaim := { program := "ytobioglccgfkdaa", sum := "0962147a0a43b4ee0617da05a3318198cab96d52f24d80baaa9ea1bd2c09c496", func := "feathermark/plumekeep.MiddleLeast", spec := "middleLeast", unfollowed := true, recurses := true, apart := false, narrowed := true }
def MiddleLeastUptoSaid : Prop := middleLeastUptoRow.holds Try.pinned (OpenSpec.upto middleLeastSpec)

/-- 'plumekeep.MiddleTop', WHERE WHAT IT READS IS OF BULK AT MOST 1048576: true; the input reads as it did. -/
def middleTopUptoRow : OpenClaim := { program := "ytobioglccgfkdaa", sum := "0962147a0a43b4ee0617da05a3318198cab96d52f24d80baaa9ea1bd2c09c496", func := "feathermark/plumekeep.MiddleTop", spec := "middleTop", unfollowed := true, recurses := true, apart := false, narrowed := true }
def MiddleTopUptoSaid : Prop := middleTopUptoRow.holds Try.pinned (OpenSpec.upto middleTopSpec)

/-- 'plumekeep.MiddleTurned', WHERE WHAT IT READS IS OF BULK AT MOST 1048576: true; the input reads as it did. -/
def middleTurnedUptoRow : OpenClaim := { program := "ytobioglccgfkdaa", sum := "0962147a0a43b4ee0617da05a3318198cab96d52f24d80baaa9ea1bd2c09c496", func := "feathermark/plumekeep.MiddleTurned", spec := "middleTurned", unfollowed := true, recurses := true, apart := false, narrowed := true }
def MiddleTurnedUptoSaid : Prop := middleTurnedUptoRow.holds Try.pinned (OpenSpec.upto middleTurnedSpec)

end Rows
end Go.Proofs.Ytobioglccgfkdaa

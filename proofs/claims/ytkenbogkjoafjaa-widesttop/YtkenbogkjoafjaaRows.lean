/-
  No cell of these rows narrows 'for every input' (looked for: loops, veiled, ifaces, maps, wideKeys, modest, calm, conditions, laid).
  DERIVED. THE GIVEN ROWS OF THIS SEAT. 4 by the template 'for every input the law returns true; each argument reads behind the call as it read before'; 0 by the template 'total and deterministic' (their statements: YtkenbogkjoafjaaTotals.lean).
  GIVEN WITH THE SEED: the statements are not yours to turn. If you find one false, say at which input.
  Laid BY PROGRAM, IN A SANDBOX (cutbox-rows.mjs): the forced cells as the released guide's own fill.sh prints them over the translation 8b08f8ec63e08d6b… (all of the seat's roots in one cut). By AI agents, Wed Nov 11 2026. No macro, syntax, notation, axiom, sorry.
-/
import Derived.Test.YtkenbogkjoafjaaChecked
import GoSem.Claim
import GoSem.ClaimJoined
import GoSem.ClaimMapViews
import Derived.JoinedTies
import Derived.KernelRfl
namespace Go.Proofs.Ytkenbogkjoafjaa
/- THE CELL 'sum', in the pinned program and in every row, IS THE sha256 OF THE DUMP (.gsa) THAT YtkenbogkjoafjaaProg.lean LOADS. Nothing in Lean hashes anything: it is a label: what it is worth is what the hold of that sum in a sandbox is worth. -/
noncomputable def Try.pinned : Pinned := { name := "ytkenbogkjoafjaa", sum := "8b08f8ec63e08d6b3bf9ba1df6f62ed8f0a1512e8c144ea33dd838a7db808ee4", checked := Try.checked }
namespace Rows
def none {H : Type} : Left H := { results := [], args := [] }

/-- 'plumelaw.WidestSays': WHATEVER THE INPUT: true; the input reads as it did. -/
def widestSaysSpec : ChangeSpec := { name := "widestSays", fn := fun _ => fun
  | [d] => { results := [.lit (.bool true)], args := [d] }
  | _ => none }
def widestSaysRow : OpenClaim := { program := "ytkenbogkjoafjaa", sum := "8b08f8ec63e08d6b3bf9ba1df6f62ed8f0a1512e8c144ea33dd838a7db808ee4", func := "feathermark/plumelaw.WidestSays", spec := "widestSays", unfollowed := true, recurses := true, apart := false }
def WidestSaysSaid : Prop := widestSaysRow.holds Try.pinned (OpenSpec.ofChange widestSaysSpec)

/-- ITS FALSE NEIGHBOUR: 'it returns false'. Refute it at one input. -/
def widestSaysWrong : ChangeSpec := { name := "widestSays", fn := fun _ => fun
  | [d] => { results := [.lit (.bool false)], args := [d] }
  | _ => none }
def WidestSaysWrongFalsely : Prop := widestSaysRow.holds Try.pinned (OpenSpec.ofChange widestSaysWrong)

/-- 'plumekeep.WidestThird': WHATEVER THE INPUT: true; the input reads as it did. -/
def widestThirdSpec : ChangeSpec := { name := "widestThird", fn := fun _ => fun
  | [d] => { results := [.lit (.bool true)], args := [d] }
  | _ => none }
def widestThirdRow : OpenClaim := { program := "ytkenbogkjoafjaa", sum := "8b08f8ec63e08d6b3bf9ba1df6f62ed8f0a1512e8c144ea33dd838a7db808ee4", func := "feathermark/plumekeep.WidestThird", spec := "widestThird", unfollowed := true, recurses := true, apart := false }
def WidestThirdSaid : Prop := widestThirdRow.holds Try.pinned (OpenSpec.ofChange widestThirdSpec)

/-- ITS FALSE NEIGHBOUR: 'it returns false'. Refute it at one input. -/
def widestThirdWrong : ChangeSpec := { name := "widestThird", fn := fun _ => fun
  | [d] => { results := [.lit (.bool false)], args := [d] }
  | _ => none }
def WidestThirdWrongFalsely : Prop := widestThirdRow.holds Try.pinned (OpenSpec.ofChange widestThirdWrong)

/-- 'plumekeep.WidestOrder': WHATEVER THE INPUT: true; the input reads as it did. -/
def widestOrderSpec : ChangeSpec := { name := "widestOrder", fn := fun _ => fun
  | [d] => { results := [.lit (.bool true)], args := [d] }
  | _ => none }
def widestOrderRow : OpenClaim := { program := "ytkenbogkjoafjaa", sum := "8b08f8ec63e08d6b3bf9ba1df6f62ed8f0a1512e8c144ea33dd838a7db808ee4", func := "feathermark/plumekeep.WidestOrder", spec := "widestOrder", unfollowed := true, recurses := true, apart := false }
def WidestOrderSaid : Prop := widestOrderRow.holds Try.pinned (OpenSpec.ofChange widestOrderSpec)

/-- ITS FALSE NEIGHBOUR: 'it returns false'. Refute it at one input. -/
def widestOrderWrong : ChangeSpec := { name := "widestOrder", fn := fun _ => fun
  | [d] => { results := [.lit (.bool false)], args := [d] }
  | _ => none }
def WidestOrderWrongFalsely : Prop := widestOrderRow.holds Try.pinned (OpenSpec.ofChange widestOrderWrong)

/-- 'plumekeep.WidestTop': WHATEVER THE INPUT: true; the input reads as it did. -/
def widestTopSpec : ChangeSpec := { name := "widestTop", fn := fun _ => fun
  | [d] => { results := [.lit (.bool true)], args := [d] }
  | _ => none }
def widestTopRow : OpenClaim := { program := "ytkenbogkjoafjaa", sum := "8b08f8ec63e08d6b3bf9ba1df6f62ed8f0a1512e8c144ea33dd838a7db808ee4", func := "feathermark/plumekeep.WidestTop", spec := "widestTop", unfollowed := true, recurses := true, apart := false }
def WidestTopSaid : Prop := widestTopRow.holds Try.pinned (OpenSpec.ofChange widestTopSpec)

/-- ITS FALSE NEIGHBOUR: 'it returns false'. Refute it at one input. -/
def widestTopWrong : ChangeSpec := { name := "widestTop", fn := fun _ => fun
  | [d] => { results := [.lit (.bool false)], args := [d] }
  | _ => none }
def WidestTopWrongFalsely : Prop := widestTopRow.holds Try.pinned (OpenSpec.ofChange widestTopWrong)

/- THE SECOND FORM. 'bulk': how many values and letters a reading holds, each counted each time it is reached (what is shared counts as often as it is met; a slice's spare places count too). A statement '..UptoSaid' is the law's where the arguments, and the package variables that the reading takes, are together of bulk at most 1048576: NARROWER than '..Said'. Prove '..Said' where nothing that the law and all that it calls make is longer than what came in: it says more and counts as full. Else prove '..UptoSaid'. A law counts once. -/
mutual
def uptoBulk {H : Type} : DataW H → Nat
  | .lit (.string bytes) => bytes.length + 1
  | .lit _ => 1
  | .nil => 1
  | .ptr d => uptoBulk d + 1
  | .slice elems spare => uptoBulkAll elems + uptoBulkAll spare + 1
  | .agg parts => uptoBulkAll parts + 1
  | .iface _ d => uptoBulk d + 1
  | .map entries => uptoBulkEntries entries + 1
  | .held _ => 1
def uptoBulkAll {H : Type} : List (DataW H) → Nat
  | [] => 0
  | d :: r => uptoBulk d + uptoBulkAll r
def uptoBulkEntries {H : Type} : List (Lit × DataW H) → Nat
  | [] => 0
  | x :: r => uptoBulkEntry x + uptoBulkEntries r
def uptoBulkEntry {H : Type} : Lit × DataW H → Nat
  | (.string bytes, d) => bytes.length + uptoBulk d + 1
  | (_, d) => uptoBulk d + 1
 end
def uptoSmall : (H : Type) → List (DataW H) → Bool := fun _ ds => decide (uptoBulkAll ds ≤ 1048576)
def OpenSpec.upto (s : _root_.Go.ChangeSpec) : _root_.Go.OpenSpec := { _root_.Go.OpenSpec.ofChange s with cond := some uptoSmall }

/-- 'plumelaw.WidestSays', WHERE WHAT IT READS IS OF BULK AT MOST 1048576: true; the input reads as it did. -/
def widestSaysUptoRow : OpenClaim := { program := "ytkenbogkjoafjaa", sum := "8b08f8ec63e08d6b3bf9ba1df6f62ed8f0a1512e8c144ea33dd838a7db808ee4", func := "feathermark/plumelaw.WidestSays", spec := "widestSays", unfollowed := true, recurses := true, apart := false, narrowed := true }
def WidestSaysUptoSaid : Prop := widestSaysUptoRow.holds Try.pinned (OpenSpec.upto widestSaysSpec)

/-- 'plumekeep.WidestThird', WHERE WHAT IT READS IS OF BULK AT MOST 1048576: true; the input reads as it did. -/
def widestThirdUptoRow : OpenClaim := { program := "ytkenbogkjoafjaa", sum := "8b08f8ec63e08d6b3bf9ba1df6f62ed8f0a1512e8c144ea33dd838a7db808ee4", func := "feathermark/plumekeep.WidestThird", spec := "widestThird", unfollowed := true, recurses := true, apart := false, narrowed := true }
def WidestThirdUptoSaid : Prop := widestThirdUptoRow.holds Try.pinned (OpenSpec.upto widestThirdSpec)

/-- 'plumekeep.WidestOrder', WHERE WHAT IT READS IS OF BULK AT MOST 1048576: true; the input reads as it did. -/
def widestOrderUptoRow : OpenClaim := { program := "ytkenbogkjoafjaa", sum := "8b08f8ec63e08d6b3bf9ba1df6f62ed8f0a1512e8c144ea33dd838a7db808ee4", func := "feathermark/plumekeep.WidestOrder", spec := "widestOrder", unfollowed := true, recurses := true, apart := false, narrowed := true }
def WidestOrderUptoSaid : Prop := widestOrderUptoRow.holds Try.pinned (OpenSpec.upto widestOrderSpec)

/-- 'plumekeep.WidestTop', WHERE WHAT IT READS IS OF BULK AT MOST 1048576: true; the input reads as it did. -/
def widestTopUptoRow : OpenClaim := { program := "ytkenbogkjoafjaa", sum := "8b08f8ec63e08d6b3bf9ba1df6f62ed8f0a1512e8c144ea33dd838a7db808ee4", func := "feathermark/plumekeep.WidestTop", spec := "widestTop", unfollowed := true, recurses := true, apart := false, narrowed := true }
def WidestTopUptoSaid : Prop := widestTopUptoRow.holds Try.pinned (OpenSpec.upto widestTopSpec)

end Rows
end Go.Proofs.Ytkenbogkjoafjaa

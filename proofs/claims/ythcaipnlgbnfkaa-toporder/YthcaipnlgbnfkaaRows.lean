/-
  No cell of these rows narrows 'for every input' (looked for: loops, veiled, ifaces, maps, wideKeys, modest, calm, conditions, laid).
  DERIVED. THE GIVEN ROWS OF THIS SEAT. 11 by the template 'for every input the law returns true; each argument reads behind the call as it read before'; 0 by the template 'total and deterministic' (their statements: YthcaipnlgbnfkaaTotals.lean).
  GIVEN WITH THE SEED: the statements are not yours to turn. If you find one false, say at which input.
  Laid BY PROGRAM, IN A SANDBOX (cutbox-rows.mjs): the forced cells as the released guide's own fill.sh prints them over the translation 65e4290d5e9fab45… (all of the seat's roots in one cut). By AI agents, Wed Nov 11 2026. No macro, syntax, notation, axiom, sorry.
-/
import Derived.Test.YthcaipnlgbnfkaaChecked
import GoSem.Claim
import GoSem.ClaimJoined
import GoSem.ClaimMapViews
import Derived.JoinedTies
import Derived.KernelRfl
namespace Go.Proofs.Ythcaipnlgbnfkaa
/- THE CELL 'sum', in the pinned program and in every row, IS THE sha256 OF THE DUMP (.gsa) THAT YthcaipnlgbnfkaaProg.lean LOADS. Nothing in Lean hashes anything: it is a label: what it is worth is what the hold of that sum in a sandbox is worth. -/
noncomputable def Try.pinned : Pinned := { name := "ythcaipnlgbnfkaa", sum := "65e4290d5e9fab452f4892921e41b05db10094be64bed66be1779ae945e8a464", checked := Try.checked }
namespace Rows
def none {H : Type} : Left H := { results := [], args := [] }

/-- 'plumelaw.WorthSays': WHATEVER THE INPUT: true; the input reads as it did. -/
def worthSaysSpec : ChangeSpec := { name := "worthSays", fn := fun _ => fun
  | [d1, d2, d3, d4] => { results := [.lit (.bool true)], args := [d1, d2, d3, d4] }
  | _ => none }
def worthSaysRow : OpenClaim := { program := "ythcaipnlgbnfkaa", sum := "65e4290d5e9fab452f4892921e41b05db10094be64bed66be1779ae945e8a464", func := "feathermark/plumelaw.WorthSays", spec := "worthSays", unfollowed := true, recurses := true, apart := false }
def WorthSaysSaid : Prop := worthSaysRow.holds Try.pinned (OpenSpec.ofChange worthSaysSpec)

/-- ITS FALSE NEIGHBOUR: 'it returns false'. Refute it at one input. -/
def worthSaysWrong : ChangeSpec := { name := "worthSays", fn := fun _ => fun
  | [d1, d2, d3, d4] => { results := [.lit (.bool false)], args := [d1, d2, d3, d4] }
  | _ => none }
def WorthSaysWrongFalsely : Prop := worthSaysRow.holds Try.pinned (OpenSpec.ofChange worthSaysWrong)

/-- 'plumekeep.WorthWhole': WHATEVER THE INPUT: true; the input reads as it did. -/
def worthWholeSpec : ChangeSpec := { name := "worthWhole", fn := fun _ => fun
  | [d1, d2, d3] => { results := [.lit (.bool true)], args := [d1, d2, d3] }
  | _ => none }
def worthWholeRow : OpenClaim := { program := "ythcaipnlgbnfkaa", sum := "65e4290d5e9fab452f4892921e41b05db10094be64bed66be1779ae945e8a464", func := "feathermark/plumekeep.WorthWhole", spec := "worthWhole", unfollowed := true, recurses := true, apart := false }
def WorthWholeSaid : Prop := worthWholeRow.holds Try.pinned (OpenSpec.ofChange worthWholeSpec)

/-- ITS FALSE NEIGHBOUR: 'it returns false'. Refute it at one input. -/
def worthWholeWrong : ChangeSpec := { name := "worthWhole", fn := fun _ => fun
  | [d1, d2, d3] => { results := [.lit (.bool false)], args := [d1, d2, d3] }
  | _ => none }
def WorthWholeWrongFalsely : Prop := worthWholeRow.holds Try.pinned (OpenSpec.ofChange worthWholeWrong)

/-- 'plumekeep.WorthAlike': WHATEVER THE INPUT: true; the input reads as it did. -/
def worthAlikeSpec : ChangeSpec := { name := "worthAlike", fn := fun _ => fun
  | [d1, d2, d3, d4, d5] => { results := [.lit (.bool true)], args := [d1, d2, d3, d4, d5] }
  | _ => none }
def worthAlikeRow : OpenClaim := { program := "ythcaipnlgbnfkaa", sum := "65e4290d5e9fab452f4892921e41b05db10094be64bed66be1779ae945e8a464", func := "feathermark/plumekeep.WorthAlike", spec := "worthAlike", unfollowed := true, recurses := true, apart := false }
def WorthAlikeSaid : Prop := worthAlikeRow.holds Try.pinned (OpenSpec.ofChange worthAlikeSpec)

/-- ITS FALSE NEIGHBOUR: 'it returns false'. Refute it at one input. -/
def worthAlikeWrong : ChangeSpec := { name := "worthAlike", fn := fun _ => fun
  | [d1, d2, d3, d4, d5] => { results := [.lit (.bool false)], args := [d1, d2, d3, d4, d5] }
  | _ => none }
def WorthAlikeWrongFalsely : Prop := worthAlikeRow.holds Try.pinned (OpenSpec.ofChange worthAlikeWrong)

/-- 'plumekeep.WorthRows': WHATEVER THE INPUT: true; the input reads as it did. -/
def worthRowsSpec : ChangeSpec := { name := "worthRows", fn := fun _ => fun
  | [d1, d2, d3] => { results := [.lit (.bool true)], args := [d1, d2, d3] }
  | _ => none }
def worthRowsRow : OpenClaim := { program := "ythcaipnlgbnfkaa", sum := "65e4290d5e9fab452f4892921e41b05db10094be64bed66be1779ae945e8a464", func := "feathermark/plumekeep.WorthRows", spec := "worthRows", unfollowed := true, recurses := true, apart := false }
def WorthRowsSaid : Prop := worthRowsRow.holds Try.pinned (OpenSpec.ofChange worthRowsSpec)

/-- ITS FALSE NEIGHBOUR: 'it returns false'. Refute it at one input. -/
def worthRowsWrong : ChangeSpec := { name := "worthRows", fn := fun _ => fun
  | [d1, d2, d3] => { results := [.lit (.bool false)], args := [d1, d2, d3] }
  | _ => none }
def WorthRowsWrongFalsely : Prop := worthRowsRow.holds Try.pinned (OpenSpec.ofChange worthRowsWrong)

/-- 'plumekeep.WorthRound': WHATEVER THE INPUT: true; the input reads as it did. -/
def worthRoundSpec : ChangeSpec := { name := "worthRound", fn := fun _ => fun
  | [d1, d2, d3, d4] => { results := [.lit (.bool true)], args := [d1, d2, d3, d4] }
  | _ => none }
def worthRoundRow : OpenClaim := { program := "ythcaipnlgbnfkaa", sum := "65e4290d5e9fab452f4892921e41b05db10094be64bed66be1779ae945e8a464", func := "feathermark/plumekeep.WorthRound", spec := "worthRound", unfollowed := true, recurses := true, apart := false }
def WorthRoundSaid : Prop := worthRoundRow.holds Try.pinned (OpenSpec.ofChange worthRoundSpec)

/-- ITS FALSE NEIGHBOUR: 'it returns false'. Refute it at one input. -/
def worthRoundWrong : ChangeSpec := { name := "worthRound", fn := fun _ => fun
  | [d1, d2, d3, d4] => { results := [.lit (.bool false)], args := [d1, d2, d3, d4] }
  | _ => none }
def WorthRoundWrongFalsely : Prop := worthRoundRow.holds Try.pinned (OpenSpec.ofChange worthRoundWrong)

/-- 'plumekeep.WorthHolds': WHATEVER THE INPUT: true; the input reads as it did. -/
def worthHoldsSpec : ChangeSpec := { name := "worthHolds", fn := fun _ => fun
  | [d1, d2, d3] => { results := [.lit (.bool true)], args := [d1, d2, d3] }
  | _ => none }
def worthHoldsRow : OpenClaim := { program := "ythcaipnlgbnfkaa", sum := "65e4290d5e9fab452f4892921e41b05db10094be64bed66be1779ae945e8a464", func := "feathermark/plumekeep.WorthHolds", spec := "worthHolds", unfollowed := true, recurses := true, apart := false }
def WorthHoldsSaid : Prop := worthHoldsRow.holds Try.pinned (OpenSpec.ofChange worthHoldsSpec)

/-- ITS FALSE NEIGHBOUR: 'it returns false'. Refute it at one input. -/
def worthHoldsWrong : ChangeSpec := { name := "worthHolds", fn := fun _ => fun
  | [d1, d2, d3] => { results := [.lit (.bool false)], args := [d1, d2, d3] }
  | _ => none }
def WorthHoldsWrongFalsely : Prop := worthHoldsRow.holds Try.pinned (OpenSpec.ofChange worthHoldsWrong)

/-- 'plumekeep.WorthDual': WHATEVER THE INPUT: true; the input reads as it did. -/
def worthDualSpec : ChangeSpec := { name := "worthDual", fn := fun _ => fun
  | [d1, d2] => { results := [.lit (.bool true)], args := [d1, d2] }
  | _ => none }
def worthDualRow : OpenClaim := { program := "ythcaipnlgbnfkaa", sum := "65e4290d5e9fab452f4892921e41b05db10094be64bed66be1779ae945e8a464", func := "feathermark/plumekeep.WorthDual", spec := "worthDual", unfollowed := true, recurses := true, apart := false }
def WorthDualSaid : Prop := worthDualRow.holds Try.pinned (OpenSpec.ofChange worthDualSpec)

/-- ITS FALSE NEIGHBOUR: 'it returns false'. Refute it at one input. -/
def worthDualWrong : ChangeSpec := { name := "worthDual", fn := fun _ => fun
  | [d1, d2] => { results := [.lit (.bool false)], args := [d1, d2] }
  | _ => none }
def WorthDualWrongFalsely : Prop := worthDualRow.holds Try.pinned (OpenSpec.ofChange worthDualWrong)

/-- 'plumetop.TopOrder': WHATEVER THE INPUT: true; the input reads as it did. -/
def topOrderSpec : ChangeSpec := { name := "topOrder", fn := fun _ => fun
  | [d1, d2] => { results := [.lit (.bool true)], args := [d1, d2] }
  | _ => none }
def topOrderRow : OpenClaim := { program := "ythcaipnlgbnfkaa", sum := "65e4290d5e9fab452f4892921e41b05db10094be64bed66be1779ae945e8a464", func := "feathermark/plumetop.TopOrder", spec := "topOrder", unfollowed := true, recurses := true, apart := false }
def TopOrderSaid : Prop := topOrderRow.holds Try.pinned (OpenSpec.ofChange topOrderSpec)

/-- ITS FALSE NEIGHBOUR: 'it returns false'. Refute it at one input. -/
def topOrderWrong : ChangeSpec := { name := "topOrder", fn := fun _ => fun
  | [d1, d2] => { results := [.lit (.bool false)], args := [d1, d2] }
  | _ => none }
def TopOrderWrongFalsely : Prop := topOrderRow.holds Try.pinned (OpenSpec.ofChange topOrderWrong)

/-- 'plumetop.TopFar': WHATEVER THE INPUT: true; the input reads as it did. -/
def topFarSpec : ChangeSpec := { name := "topFar", fn := fun _ => fun
  | [d1, d2, d3] => { results := [.lit (.bool true)], args := [d1, d2, d3] }
  | _ => none }
def topFarRow : OpenClaim := { program := "ythcaipnlgbnfkaa", sum := "65e4290d5e9fab452f4892921e41b05db10094be64bed66be1779ae945e8a464", func := "feathermark/plumetop.TopFar", spec := "topFar", unfollowed := true, recurses := true, apart := false }
def TopFarSaid : Prop := topFarRow.holds Try.pinned (OpenSpec.ofChange topFarSpec)

/-- ITS FALSE NEIGHBOUR: 'it returns false'. Refute it at one input. -/
def topFarWrong : ChangeSpec := { name := "topFar", fn := fun _ => fun
  | [d1, d2, d3] => { results := [.lit (.bool false)], args := [d1, d2, d3] }
  | _ => none }
def TopFarWrongFalsely : Prop := topFarRow.holds Try.pinned (OpenSpec.ofChange topFarWrong)

/-- 'plumetop.TopMiddle': WHATEVER THE INPUT: true; the input reads as it did. -/
def topMiddleSpec : ChangeSpec := { name := "topMiddle", fn := fun _ => fun
  | [d1, d2, d3] => { results := [.lit (.bool true)], args := [d1, d2, d3] }
  | _ => none }
def topMiddleRow : OpenClaim := { program := "ythcaipnlgbnfkaa", sum := "65e4290d5e9fab452f4892921e41b05db10094be64bed66be1779ae945e8a464", func := "feathermark/plumetop.TopMiddle", spec := "topMiddle", unfollowed := true, recurses := true, apart := false }
def TopMiddleSaid : Prop := topMiddleRow.holds Try.pinned (OpenSpec.ofChange topMiddleSpec)

/-- ITS FALSE NEIGHBOUR: 'it returns false'. Refute it at one input. -/
def topMiddleWrong : ChangeSpec := { name := "topMiddle", fn := fun _ => fun
  | [d1, d2, d3] => { results := [.lit (.bool false)], args := [d1, d2, d3] }
  | _ => none }
def TopMiddleWrongFalsely : Prop := topMiddleRow.holds Try.pinned (OpenSpec.ofChange topMiddleWrong)

/-- 'plumetop.TopPower': WHATEVER THE INPUT: true; the input reads as it did. -/
def topPowerSpec : ChangeSpec := { name := "topPower", fn := fun _ => fun
  | [d1, d2] => { results := [.lit (.bool true)], args := [d1, d2] }
  | _ => none }
def topPowerRow : OpenClaim := { program := "ythcaipnlgbnfkaa", sum := "65e4290d5e9fab452f4892921e41b05db10094be64bed66be1779ae945e8a464", func := "feathermark/plumetop.TopPower", spec := "topPower", unfollowed := true, recurses := true, apart := false }
def TopPowerSaid : Prop := topPowerRow.holds Try.pinned (OpenSpec.ofChange topPowerSpec)

/-- ITS FALSE NEIGHBOUR: 'it returns false'. Refute it at one input. -/
def topPowerWrong : ChangeSpec := { name := "topPower", fn := fun _ => fun
  | [d1, d2] => { results := [.lit (.bool false)], args := [d1, d2] }
  | _ => none }
def TopPowerWrongFalsely : Prop := topPowerRow.holds Try.pinned (OpenSpec.ofChange topPowerWrong)

/- THE SECOND FORM. 'bulk': how many values and letters a reading holds, each counted each time it is reached (what is shared counts as often as it is met; a slice's spare places count too). A statement '..UptoSaid' is the law's where the arguments, and the package variables that the reading takes, are together of bulk at most 1048576: NARROWER than '..Said'. Prove '..Said' where nothing that the law and all that it calls make is longer than what came in: it says more and counts as full. Else prove '..UptoSaid'. A law counts once. -/
mutual
def uptoBulk {H : Type} : DataW H → Nat
  | .lit (.string bytes) => bytes.length + 1
  | .lit _ => 1
  | .nil => 1
  | .ptr d => uptoBulk d + 1
  | .slice elems spare => uptoBulkAll elems + uptoBulkAll spare + 1
  | .agg parts => uptoBulkAll parts + 1
  | .iface _ d => uptoBulk d + 1
  | .map entries => uptoBulkEntries entries + 1
  | .held _ => 1
def uptoBulkAll {H : Type} : List (DataW H) → Nat
  | [] => 0
  | d :: r => uptoBulk d + uptoBulkAll r
def uptoBulkEntries {H : Type} : List (Lit × DataW H) → Nat
  | [] => 0
  | x :: r => uptoBulkEntry x + uptoBulkEntries r
def uptoBulkEntry {H : Type} : Lit × DataW H → Nat
  | (.string bytes, d) => bytes.length + uptoBulk d + 1
  | (_, d) => uptoBulk d + 1
 end
def uptoSmall : (H : Type) → List (DataW H) → Bool := fun _ ds => decide (uptoBulkAll ds ≤ 1048576)
def OpenSpec.upto (s : _root_.Go.ChangeSpec) : _root_.Go.OpenSpec := { _root_.Go.OpenSpec.ofChange s with cond := some uptoSmall }

/-- 'plumelaw.WorthSays', WHERE WHAT IT READS IS OF BULK AT MOST 1048576: true; the input reads as it did. -/
def worthSaysUptoRow : OpenClaim := { program := "ythcaipnlgbnfkaa", sum := "65e4290d5e9fab452f4892921e41b05db10094be64bed66be1779ae945e8a464", func := "feathermark/plumelaw.WorthSays", spec := "worthSays", unfollowed := true, recurses := true, apart := false, narrowed := true }
def WorthSaysUptoSaid : Prop := worthSaysUptoRow.holds Try.pinned (OpenSpec.upto worthSaysSpec)

/-- 'plumekeep.WorthWhole', WHERE WHAT IT READS IS OF BULK AT MOST 1048576: true; the input reads as it did. -/
def worthWholeUptoRow : OpenClaim := { program := "ythcaipnlgbnfkaa", sum := "65e4290d5e9fab452f4892921e41b05db10094be64bed66be1779ae945e8a464", func := "feathermark/plumekeep.WorthWhole", spec := "worthWhole", unfollowed := true, recurses := true, apart := false, narrowed := true }
def WorthWholeUptoSaid : Prop := worthWholeUptoRow.holds Try.pinned (OpenSpec.upto worthWholeSpec)

/-- 'plumekeep.WorthAlike', WHERE WHAT IT READS IS OF BULK AT MOST 1048576: true; the input reads as it did. -/
def worthAlikeUptoRow : OpenClaim := { program := "ythcaipnlgbnfkaa", sum := "65e4290d5e9fab452f4892921e41b05db10094be64bed66be1779ae945e8a464", func := "feathermark/plumekeep.WorthAlike", spec := "worthAlike", unfollowed := true, recurses := true, apart := false, narrowed := true }
def WorthAlikeUptoSaid : Prop := worthAlikeUptoRow.holds Try.pinned (OpenSpec.upto worthAlikeSpec)

/-- 'plumekeep.WorthRows', WHERE WHAT IT READS IS OF BULK AT MOST 1048576: true; the input reads as it did. -/
def worthRowsUptoRow : OpenClaim := { program := "ythcaipnlgbnfkaa", sum := "65e4290d5e9fab452f4892921e41b05db10094be64bed66be1779ae945e8a464", func := "feathermark/plumekeep.WorthRows", spec := "worthRows", unfollowed := true, recurses := true, apart := false, narrowed := true }
def WorthRowsUptoSaid : Prop := worthRowsUptoRow.holds Try.pinned (OpenSpec.upto worthRowsSpec)

/-- 'plumekeep.WorthRound', WHERE WHAT IT READS IS OF BULK AT MOST 1048576: true; the input reads as it did. -/
def worthRoundUptoRow : OpenClaim := { program := "ythcaipnlgbnfkaa", sum := "65e4290d5e9fab452f4892921e41b05db10094be64bed66be1779ae945e8a464", func := "feathermark/plumekeep.WorthRound", spec := "worthRound", unfollowed := true, recurses := true, apart := false, narrowed := true }
def WorthRoundUptoSaid : Prop := worthRoundUptoRow.holds Try.pinned (OpenSpec.upto worthRoundSpec)

/-- 'plumekeep.WorthHolds', WHERE WHAT IT READS IS OF BULK AT MOST 1048576: true; the input reads as it did. -/
def worthHoldsUptoRow : OpenClaim := { program := "ythcaipnlgbnfkaa", sum := "65e4290d5e9fab452f4892921e41b05db10094be64bed66be1779ae945e8a464", func := "feathermark/plumekeep.WorthHolds", spec := "worthHolds", unfollowed := true, recurses := true, apart := false, narrowed := true }
def WorthHoldsUptoSaid : Prop := worthHoldsUptoRow.holds Try.pinned (OpenSpec.upto worthHoldsSpec)

/-- 'plumekeep.WorthDual', WHERE WHAT IT READS IS OF BULK AT MOST 1048576: true; the input reads as it did. -/
def worthDualUptoRow : OpenClaim := { program := "ythcaipnlgbnfkaa", sum := "65e4290d5e9fab452f4892921e41b05db10094be64bed66be1779ae945e8a464", func := "feathermark/plumekeep.WorthDual", spec := "worthDual", unfollowed := true, recurses := true, apart := false, narrowed := true }
def WorthDualUptoSaid : Prop := worthDualUptoRow.holds Try.pinned (OpenSpec.upto worthDualSpec)

/-- 'plumetop.TopOrder', WHERE WHAT IT READS IS OF BULK AT MOST 1048576: true; the input reads as it did. -/
def topOrderUptoRow : OpenClaim := { program := "ythcaipnlgbnfkaa", sum := "65e4290d5e9fab452f4892921e41b05db10094be64bed66be1779ae945e8a464", func := "feathermark/plumetop.TopOrder", spec := "topOrder", unfollowed := true, recurses := true, apart := false, narrowed := true }
def TopOrderUptoSaid : Prop := topOrderUptoRow.holds Try.pinned (OpenSpec.upto topOrderSpec)

/-- 'plumetop.TopFar', WHERE WHAT IT READS IS OF BULK AT MOST 1048576: true; the input reads as it did. -/
def topFarUptoRow : OpenClaim := { program := "ythcaipnlgbnfkaa", sum := "65e4290d5e9fab452f4892921e41b05db10094be64bed66be1779ae945e8a464", func := "feathermark/plumetop.TopFar", spec := "topFar", unfollowed := true, recurses := true, apart := false, narrowed := true }
def TopFarUptoSaid : Prop := topFarUptoRow.holds Try.pinned (OpenSpec.upto topFarSpec)

/-- 'plumetop.TopMiddle', WHERE WHAT IT READS IS OF BULK AT MOST 1048576: true; the input reads as it did. -/
def topMiddleUptoRow : OpenClaim := { program := "ythcaipnlgbnfkaa", sum := "65e4290d5e9fab452f4892921e41b05db10094be64bed66be1779ae945e8a464", func := "feathermark/plumetop.TopMiddle", spec := "topMiddle", unfollowed := true, recurses := true, apart := false, narrowed := true }
def TopMiddleUptoSaid : Prop := topMiddleUptoRow.holds Try.pinned (OpenSpec.upto topMiddleSpec)

/-- 'plumetop.TopPower', WHERE WHAT IT READS IS OF BULK AT MOST 1048576: true; the input reads as it did. -/
def topPowerUptoRow : OpenClaim := { program := "ythcaipnlgbnfkaa", sum := "65e4290d5e9fab452f4892921e41b05db10094be64bed66be1779ae945e8a464", func := "feathermark/plumetop.TopPower", spec := "topPower", unfollowed := true, recurses := true, apart := false, narrowed := true }
def TopPowerUptoSaid : Prop := topPowerUptoRow.holds Try.pinned (OpenSpec.upto topPowerSpec)

end Rows
end Go.Proofs.Ythcaipnlgbnfkaa

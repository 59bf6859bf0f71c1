/-
  No cell of these rows narrows 'for every input' (looked for: loops, veiled, ifaces, maps, wideKeys, modest, calm, conditions, laid).
  DERIVED. THE GIVEN ROWS OF THIS SEAT. 6 by the template 'for every input the law returns true; each argument reads behind the call as it read before'; 0 by the template 'total and deterministic' (their statements: YtdoidajdfnbiiaaTotals.lean).
  GIVEN WITH THE SEED: the statements are not yours to turn. If you find one false, say at which input.
  Laid BY PROGRAM, IN A SANDBOX (cutbox-rows.mjs): the forced cells as the released guide's own fill.sh prints them over the translation eabb573724611638… (all of the seat's roots in one cut). By AI agents, Wed Nov 11 2026. No macro, syntax, notation, axiom, sorry.
-/
import Derived.Test.YtdoidajdfnbiiaaChecked
import GoSem.Claim
import GoSem.ClaimJoined
import GoSem.ClaimMapViews
import Derived.JoinedTies
import Derived.KernelRfl
namespace Go.Proofs.Ytdoidajdfnbiiaa
/- THE CELL 'sum', in the pinned program and in every row, IS THE sha256 OF THE DUMP (.gsa) THAT YtdoidajdfnbiiaaProg.lean LOADS. Nothing in Lean hashes anything: it is a label: what it is worth is what the hold of that sum in a sandbox is worth. -/
noncomputable def Try.pinned : Pinned := { name := "ytdoidajdfnbiiaa", sum := "eabb573724611638f27036502ecc8986c7c394c915c578f9f9d3590c54989436", checked := Try.checked }
namespace Rows
def none {H : Type} : Left H := { results := [], args := [] }

/-- 'plumelaw.PowerSays': WHATEVER THE INPUT: true; the input reads as it did. -/
def powerSaysSpec : ChangeSpec := { name := "powerSays", fn := fun _ => fun
  | [d1, d2, d3] => { results := [.lit (.bool true)], args := [d1, d2, d3] }
  | _ => none }
def powerSaysRow : OpenClaim := { program := "ytdoidajdfnbiiaa", sum := "eabb573724611638f27036502ecc8986c7c394c915c578f9f9d3590c54989436", func := "feathermark/plumelaw.PowerSays", spec := "powerSays", recurses := true, apart := false }
def PowerSaysSaid : Prop := powerSaysRow.holds Try.pinned (OpenSpec.ofChange powerSaysSpec)

/-- ITS FALSE NEIGHBOUR: 'it returns false'. Refute it at one input. -/
def powerSaysWrong : ChangeSpec := { name := "powerSays", fn := fun _ => fun
  | [d1, d2, d3] => { results := [.lit (.bool false)], args := [d1, d2, d3] }
  | _ => none }
def PowerSaysWrongFalsely : Prop := powerSaysRow.holds Try.pinned (OpenSpec.ofChange powerSaysWrong)

/-- 'plumekeep.PowerTurns': WHATEVER THE INPUT: true; the input reads as it did. -/
def powerTurnsSpec : ChangeSpec := { name := "powerTurns", fn := fun _ => fun
  | [d1, d2] => { results := [.lit (.bool true)], args := [d1, d2] }
  | _ => none }
def powerTurnsRow : OpenClaim := { program := "ytdoidajdfnbiiaa", sum := "eabb573724611638f27036502ecc8986c7c394c915c578f9f9d3590c54989436", func := "feathermark/plumekeep.PowerTurns", spec := "powerTurns", unfollowed := true, recurses := true, apart := false }
def PowerTurnsSaid : Prop := powerTurnsRow.holds Try.pinned (OpenSpec.ofChange powerTurnsSpec)

/-- ITS FALSE NEIGHBOUR: 'it returns false'. Refute it at one input. -/
def powerTurnsWrong : ChangeSpec := { name := "powerTurns", fn := fun _ => fun
  | [d1, d2] => { results := [.lit (.bool false)], args := [d1, d2] }
  | _ => none }
def PowerTurnsWrongFalsely : Prop := powerTurnsRow.holds Try.pinned (OpenSpec.ofChange powerTurnsWrong)

/-- 'plumekeep.PowerSwings': WHATEVER THE INPUT: true; the input reads as it did. -/
def powerSwingsSpec : ChangeSpec := { name := "powerSwings", fn := fun _ => fun
  | [d1, d2] => { results := [.lit (.bool true)], args := [d1, d2] }
  | _ => none }
def powerSwingsRow : OpenClaim := { program := "ytdoidajdfnbiiaa", sum := "eabb573724611638f27036502ecc8986c7c394c915c578f9f9d3590c54989436", func := "feathermark/plumekeep.PowerSwings", spec := "powerSwings", unfollowed := true, recurses := true, apart := false }
def PowerSwingsSaid : Prop := powerSwingsRow.holds Try.pinned (OpenSpec.ofChange powerSwingsSpec)

/-- ITS FALSE NEIGHBOUR: 'it returns false'. Refute it at one input. -/
def powerSwingsWrong : ChangeSpec := { name := "powerSwings", fn := fun _ => fun
  | [d1, d2] => { results := [.lit (.bool false)], args := [d1, d2] }
  | _ => none }
def PowerSwingsWrongFalsely : Prop := powerSwingsRow.holds Try.pinned (OpenSpec.ofChange powerSwingsWrong)

/-- 'plumekeep.PowerDual': WHATEVER THE INPUT: true; the input reads as it did. -/
def powerDualSpec : ChangeSpec := { name := "powerDual", fn := fun _ => fun
  | [d1, d2] => { results := [.lit (.bool true)], args := [d1, d2] }
  | _ => none }
def powerDualRow : OpenClaim := { program := "ytdoidajdfnbiiaa", sum := "eabb573724611638f27036502ecc8986c7c394c915c578f9f9d3590c54989436", func := "feathermark/plumekeep.PowerDual", spec := "powerDual", unfollowed := true, recurses := true, apart := false }
def PowerDualSaid : Prop := powerDualRow.holds Try.pinned (OpenSpec.ofChange powerDualSpec)

/-- ITS FALSE NEIGHBOUR: 'it returns false'. Refute it at one input. -/
def powerDualWrong : ChangeSpec := { name := "powerDual", fn := fun _ => fun
  | [d1, d2] => { results := [.lit (.bool false)], args := [d1, d2] }
  | _ => none }
def PowerDualWrongFalsely : Prop := powerDualRow.holds Try.pinned (OpenSpec.ofChange powerDualWrong)

/-- 'plumekeep.PowerScaled': WHATEVER THE INPUT: true; the input reads as it did. -/
def powerScaledSpec : ChangeSpec := { name := "powerScaled", fn := fun _ => fun
  | [d1, d2, d3, d4] => { results := [.lit (.bool true)], args := [d1, d2, d3, d4] }
  | _ => none }
def powerScaledRow : OpenClaim := { program := "ytdoidajdfnbiiaa", sum := "eabb573724611638f27036502ecc8986c7c394c915c578f9f9d3590c54989436", func := "feathermark/plumekeep.PowerScaled", spec := "powerScaled", unfollowed := true, recurses := true, apart := false }
def PowerScaledSaid : Prop := powerScaledRow.holds Try.pinned (OpenSpec.ofChange powerScaledSpec)

/-- ITS FALSE NEIGHBOUR: 'it returns false'. Refute it at one input. -/
def powerScaledWrong : ChangeSpec := { name := "powerScaled", fn := fun _ => fun
  | [d1, d2, d3, d4] => { results := [.lit (.bool false)], args := [d1, d2, d3, d4] }
  | _ => none }
def PowerScaledWrongFalsely : Prop := powerScaledRow.holds Try.pinned (OpenSpec.ofChange powerScaledWrong)

/-- 'plumekeep.PowerVeto': WHATEVER THE INPUT: true; the input reads as it did. -/
def powerVetoSpec : ChangeSpec := { name := "powerVeto", fn := fun _ => fun
  | [d1, d2] => { results := [.lit (.bool true)], args := [d1, d2] }
  | _ => none }
def powerVetoRow : OpenClaim := { program := "ytdoidajdfnbiiaa", sum := "eabb573724611638f27036502ecc8986c7c394c915c578f9f9d3590c54989436", func := "feathermark/plumekeep.PowerVeto", spec := "powerVeto", unfollowed := true, recurses := true, apart := false }
def PowerVetoSaid : Prop := powerVetoRow.holds Try.pinned (OpenSpec.ofChange powerVetoSpec)

/-- ITS FALSE NEIGHBOUR: 'it returns false'. Refute it at one input. -/
def powerVetoWrong : ChangeSpec := { name := "powerVeto", fn := fun _ => fun
  | [d1, d2] => { results := [.lit (.bool false)], args := [d1, d2] }
  | _ => none }
def PowerVetoWrongFalsely : Prop := powerVetoRow.holds Try.pinned (OpenSpec.ofChange powerVetoWrong)

/- THE SECOND FORM. 'bulk': how many values and letters a reading holds, each counted each time it is reached (what is shared counts as often as it is met; a slice's spare places count too). A statement '..UptoSaid' is the law's where the arguments, and the package variables that the reading takes, are together of bulk at most 1048576: NARROWER than '..Said'. Prove '..Said' where nothing that the law and all that it calls make is longer than what came in: it says more and counts as full. Else prove '..UptoSaid'. A law counts once. -/
mutual
def uptoBulk {H : Type} : DataW H → Nat
  | .lit (.string bytes) => bytes.length + 1
  | .lit _ => 1
  | .nil => 1
  | .ptr d => uptoBulk d + 1
  | .slice elems spare => uptoBulkAll elems + uptoBulkAll spare + 1
  | .agg parts => uptoBulkAll parts + 1
  | .iface _ d => uptoBulk d + 1
  | .map entries => uptoBulkEntries entries + 1
  | .held _ => 1
def uptoBulkAll {H : Type} : List (DataW H) → Nat
  | [] => 0
  | d :: r => uptoBulk d + uptoBulkAll r
def uptoBulkEntries {H : Type} : List (Lit × DataW H) → Nat
  | [] => 0
  | x :: r => uptoBulkEntry x + uptoBulkEntries r
def uptoBulkEntry {H : Type} : Lit × DataW H → Nat
  | (.string bytes, d) => bytes.length + uptoBulk d + 1
  | (_, d) => uptoBulk d + 1
 end
def uptoSmall : (H : Type) → List (DataW H) → Bool := fun _ ds => decide (uptoBulkAll ds ≤ 1048576)
def OpenSpec.upto (s : _root_.Go.ChangeSpec) : _root_.Go.OpenSpec := { _root_.Go.OpenSpec.ofChange s with cond := some uptoSmall }

/-- 'plumelaw.PowerSays', WHERE WHAT IT READS IS OF BULK AT MOST 1048576: true; the input reads as it did. -/
def powerSaysUptoRow : OpenClaim := { program := "ytdoidajdfnbiiaa", sum := "eabb573724611638f27036502ecc8986c7c394c915c578f9f9d3590c54989436", func := "feathermark/plumelaw.PowerSays", spec := "powerSays", recurses := true, apart := false, narrowed := true }
def PowerSaysUptoSaid : Prop := powerSaysUptoRow.holds Try.pinned (OpenSpec.upto powerSaysSpec)

/-- 'plumekeep.PowerTurns', WHERE WHAT IT READS IS OF BULK AT MOST 1048576: true; the input reads as it did. -/
def powerTurnsUptoRow : OpenClaim := { program := "ytdoidajdfnbiiaa", sum := "eabb573724611638f27036502ecc8986c7c394c915c578f9f9d3590c54989436", func := "feathermark/plumekeep.PowerTurns", spec := "powerTurns", unfollowed := true, recurses := true, apart := false, narrowed := true }
def PowerTurnsUptoSaid : Prop := powerTurnsUptoRow.holds Try.pinned (OpenSpec.upto powerTurnsSpec)

/-- 'plumekeep.PowerSwings', WHERE WHAT IT READS IS OF BULK AT MOST 1048576: true; the input reads as it did. -/
def powerSwingsUptoRow : OpenClaim := { program := "ytdoidajdfnbiiaa", sum := "eabb573724611638f27036502ecc8986c7c394c915c578f9f9d3590c54989436", func := "feathermark/plumekeep.PowerSwings", spec := "powerSwings", unfollowed := true, recurses := true, apart := false, narrowed := true }
def PowerSwingsUptoSaid : Prop := powerSwingsUptoRow.holds Try.pinned (OpenSpec.upto powerSwingsSpec)

/-- 'plumekeep.PowerDual', WHERE WHAT IT READS IS OF BULK AT MOST 1048576: true; the input reads as it did. -/
def powerDualUptoRow : OpenClaim := { program := "ytdoidajdfnbiiaa", sum := "eabb573724611638f27036502ecc8986c7c394c915c578f9f9d3590c54989436", func := "feathermark/plumekeep.PowerDual", spec := "powerDual", unfollowed := true, recurses := true, apart := false, narrowed := true }
def PowerDualUptoSaid : Prop := powerDualUptoRow.holds Try.pinned (OpenSpec.upto powerDualSpec)

/-- 'plumekeep.PowerScaled', WHERE WHAT IT READS IS OF BULK AT MOST 1048576: true; the input reads as it did. -/
def powerScaledUptoRow : OpenClaim := { program := "ytdoidajdfnbiiaa", sum := "eabb573724611638f27036502ecc8986c7c394c915c578f9f9d3590c54989436", func := "feathermark/plumekeep.PowerScaled", spec := "powerScaled", unfollowed := true, recurses := true, apart := false, narrowed := true }
def PowerScaledUptoSaid : Prop := powerScaledUptoRow.holds Try.pinned (OpenSpec.upto powerScaledSpec)

/-- 'plumekeep.PowerVeto', WHERE WHAT IT READS IS OF BULK AT MOST 1048576: true; the input reads as it did. -/
def powerVetoUptoRow : OpenClaim := { program := "ytdoidajdfnbiiaa", sum := "eabb573724611638f27036502ecc8986c7c394c915c578f9f9d3590c54989436", func := "feathermark/plumekeep.PowerVeto", spec := "powerVeto", unfollowed := true, recurses := true, apart := false, narrowed := true }
def PowerVetoUptoSaid : Prop := powerVetoUptoRow.holds Try.pinned (OpenSpec.upto powerVetoSpec)

end Rows
end Go.Proofs.Ytdoidajdfnbiiaa

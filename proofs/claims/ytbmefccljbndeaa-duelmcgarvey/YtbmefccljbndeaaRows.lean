/-
  No cell of these rows narrows 'for every input' (looked for: loops, veiled, ifaces, maps, wideKeys, modest, calm, conditions, laid).
  DERIVED. THE GIVEN ROWS OF THIS SEAT. 6 by the template 'for every input the law returns true; each argument reads behind the call as it read before'; 0 by the template 'total and deterministic' (their statements: YtbmefccljbndeaaTotals.lean).
  GIVEN WITH THE SEED: the statements are not yours to turn. If you find one false, say at which input.
  Laid BY PROGRAM, IN A SANDBOX (cutbox-rows.mjs): the forced cells as the released guide's own fill.sh prints them over the translation b666fed73d0ed57d… (all of the seat's roots in one cut). By AI agents, Wed Nov 11 2026. No macro, syntax, notation, axiom, sorry.
-/
import Derived.Test.YtbmefccljbndeaaChecked
import GoSem.Claim
import GoSem.ClaimJoined
import GoSem.ClaimMapViews
import Derived.JoinedTies
import Derived.KernelRfl
namespace Go.Proofs.Ytbmefccljbndeaa
/- THE CELL 'sum', in the pinned program and in every row, IS THE sha256 OF THE DUMP (.gsa) THAT YtbmefccljbndeaaProg.lean LOADS. Nothing in Lean hashes anything: it is a label: what it is worth is what the hold of that sum in a sandbox is worth. -/
noncomputable def Try.pinned : Pinned := { name := "ytbmefccljbndeaa", sum := "b666fed73d0ed57d035227cdac97718c4dc6d0faee2b802a18b0093b417c3097", checked := Try.checked }
namespace Rows
def none {H : Type} : Left H := { results := [], args := [] }

/-- 'plumelaw.DuelSays': WHATEVER THE INPUT: true; the input reads as it did. -/
def duelSaysSpec : ChangeSpec := { name := "duelSays", fn := fun _ => fun
  | [d] => { results := [.lit (.bool true)], args := [d] }
  | _ => none }
def duelSaysRow : OpenClaim := { program := "ytbmefccljbndeaa", sum := "b666fed73d0ed57d035227cdac97718c4dc6d0faee2b802a18b0093b417c3097", func := "feathermark/plumelaw.DuelSays", spec := "duelSays", unfollowed := true, recurses := true, apart := false }
def DuelSaysSaid : Prop := duelSaysRow.holds Try.pinned (OpenSpec.ofChange duelSaysSpec)

/-- ITS FALSE NEIGHBOUR: 'it returns false'. Refute it at one input. -/
def duelSaysWrong : ChangeSpec := { name := "duelSays", fn := fun _ => fun
  | [d] => { results := [.lit (.bool false)], args := [d] }
  | _ => none }
def DuelSaysWrongFalsely : Prop := duelSaysRow.holds Try.pinned (OpenSpec.ofChange duelSaysWrong)

/-- 'plumelaw.DuelVotes': WHATEVER THE INPUT: true; the input reads as it did. -/
def duelVotesSpec : ChangeSpec := { name := "duelVotes", fn := fun _ => fun
  | [d1, d2] => { results := [.lit (.bool true)], args := [d1, d2] }
  | _ => none }
def duelVotesRow : OpenClaim := { program := "ytbmefccljbndeaa", sum := "b666fed73d0ed57d035227cdac97718c4dc6d0faee2b802a18b0093b417c3097", func := "feathermark/plumelaw.DuelVotes", spec := "duelVotes", unfollowed := true, recurses := true, apart := false }
def DuelVotesSaid : Prop := duelVotesRow.holds Try.pinned (OpenSpec.ofChange duelVotesSpec)

/-- ITS FALSE NEIGHBOUR: 'it returns false'. Refute it at one input. -/
def duelVotesWrong : ChangeSpec := { name := "duelVotes", fn := fun _ => fun
  | [d1, d2] => { results := [.lit (.bool false)], args := [d1, d2] }
  | _ => none }
def DuelVotesWrongFalsely : Prop := duelVotesRow.holds Try.pinned (OpenSpec.ofChange duelVotesWrong)

/-- 'plumekeep.DuelTop': WHATEVER THE INPUT: true; the input reads as it did. -/
def duelTopSpec : ChangeSpec := { name := "duelTop", fn := fun _ => fun
  | [d] => { results := [.lit (.bool true)], args := [d] }
  | _ => none }
def duelTopRow : OpenClaim := { program := "ytbmefccljbndeaa", sum := "b666fed73d0ed57d035227cdac97718c4dc6d0faee2b802a18b0093b417c3097", func := "feathermark/plumekeep.DuelTop", spec := "duelTop", unfollowed := true, recurses := true, apart := false }
def DuelTopSaid : Prop := duelTopRow.holds Try.pinned (OpenSpec.ofChange duelTopSpec)

/-- ITS FALSE NEIGHBOUR: 'it returns false'. Refute it at one input. -/
def duelTopWrong : ChangeSpec := { name := "duelTop", fn := fun _ => fun
  | [d] => { results := [.lit (.bool false)], args := [d] }
  | _ => none }
def DuelTopWrongFalsely : Prop := duelTopRow.holds Try.pinned (OpenSpec.ofChange duelTopWrong)

/-- 'plumekeep.DuelWins': WHATEVER THE INPUT: true; the input reads as it did. -/
def duelWinsSpec : ChangeSpec := { name := "duelWins", fn := fun _ => fun
  | [d] => { results := [.lit (.bool true)], args := [d] }
  | _ => none }
def duelWinsRow : OpenClaim := { program := "ytbmefccljbndeaa", sum := "b666fed73d0ed57d035227cdac97718c4dc6d0faee2b802a18b0093b417c3097", func := "feathermark/plumekeep.DuelWins", spec := "duelWins", unfollowed := true, recurses := true, apart := false }
def DuelWinsSaid : Prop := duelWinsRow.holds Try.pinned (OpenSpec.ofChange duelWinsSpec)

/-- ITS FALSE NEIGHBOUR: 'it returns false'. Refute it at one input. -/
def duelWinsWrong : ChangeSpec := { name := "duelWins", fn := fun _ => fun
  | [d] => { results := [.lit (.bool false)], args := [d] }
  | _ => none }
def DuelWinsWrongFalsely : Prop := duelWinsRow.holds Try.pinned (OpenSpec.ofChange duelWinsWrong)

/-- 'plumekeep.DuelWorst': WHATEVER THE INPUT: true; the input reads as it did. -/
def duelWorstSpec : ChangeSpec := { name := "duelWorst", fn := fun _ => fun
  | [d] => { results := [.lit (.bool true)], args := [d] }
  | _ => none }
def duelWorstRow : OpenClaim := { program := "ytbmefccljbndeaa", sum := "b666fed73d0ed57d035227cdac97718c4dc6d0faee2b802a18b0093b417c3097", func := "feathermark/plumekeep.DuelWorst", spec := "duelWorst", unfollowed := true, recurses := true, apart := false }
def DuelWorstSaid : Prop := duelWorstRow.holds Try.pinned (OpenSpec.ofChange duelWorstSpec)

/-- ITS FALSE NEIGHBOUR: 'it returns false'. Refute it at one input. -/
def duelWorstWrong : ChangeSpec := { name := "duelWorst", fn := fun _ => fun
  | [d] => { results := [.lit (.bool false)], args := [d] }
  | _ => none }
def DuelWorstWrongFalsely : Prop := duelWorstRow.holds Try.pinned (OpenSpec.ofChange duelWorstWrong)

/-- 'plumekeep.DuelMcGarvey': WHATEVER THE INPUT: true; the input reads as it did. -/
def duelMcGarveySpec : ChangeSpec := { name := "duelMcGarvey", fn := fun _ => fun
  | [d1, d2] => { results := [.lit (.bool true)], args := [d1, d2] }
  | _ => none }
def duelMcGarveyRow : OpenClaim := { program := "ytbmefccljbndeaa", sum := "b666fed73d0ed57d035227cdac97718c4dc6d0faee2b802a18b0093b417c3097", func := "feathermark/plumekeep.DuelMcGarvey", spec := "duelMcGarvey", unfollowed := true, recurses := true, apart := false }
def DuelMcGarveySaid : Prop := duelMcGarveyRow.holds Try.pinned (OpenSpec.ofChange duelMcGarveySpec)

/-- ITS FALSE NEIGHBOUR: 'it returns false'. Refute it at one input. -/
def duelMcGarveyWrong : ChangeSpec := { name := "duelMcGarvey", fn := fun _ => fun
  | [d1, d2] => { results := [.lit (.bool false)], args := [d1, d2] }
  | _ => none }
def DuelMcGarveyWrongFalsely : Prop := duelMcGarveyRow.holds Try.pinned (OpenSpec.ofChange duelMcGarveyWrong)

/- THE SECOND FORM. 'bulk': how many values and letters a reading holds, each counted each time it is reached (what is shared counts as often as it is met; a slice's spare places count too). A statement '..UptoSaid' is the law's where the arguments, and the package variables that the reading takes, are together of bulk at most 1048576: NARROWER than '..Said'. Prove '..Said' where nothing that the law and all that it calls make is longer than what came in: it says more and counts as full. Else prove '..UptoSaid'. A law counts once. -/
mutual
def uptoBulk {H : Type} : DataW H → Nat
  | .lit (.string bytes) => bytes.length + 1
  | .lit _ => 1
  | .nil => 1
  | .ptr d => uptoBulk d + 1
  | .slice elems spare => uptoBulkAll elems + uptoBulkAll spare + 1
  | .agg parts => uptoBulkAll parts + 1
  | .iface _ d => uptoBulk d + 1
  | .map entries => uptoBulkEntries entries + 1
  | .held _ => 1
def uptoBulkAll {H : Type} : List (DataW H) → Nat
  | [] => 0
  | d :: r => uptoBulk d + uptoBulkAll r
def uptoBulkEntries {H : Type} : List (Lit × DataW H) → Nat
  | [] => 0
  | x :: r => uptoBulkEntry x + uptoBulkEntries r
def uptoBulkEntry {H : Type} : Lit × DataW H → Nat
  | (.string bytes, d) => bytes.length + uptoBulk d + 1
  | (_, d) => uptoBulk d + 1
 end
def uptoSmall : (H : Type) → List (DataW H) → Bool := fun _ ds => decide (uptoBulkAll ds ≤ 1048576)
def OpenSpec.upto (s : _root_.Go.ChangeSpec) : _root_.Go.OpenSpec := { _root_.Go.OpenSpec.ofChange s with cond := some uptoSmall }

/-- 'plumelaw.DuelSays', WHERE WHAT IT READS IS OF BULK AT MOST 1048576: true; the input reads as it did. -/
def duelSaysUptoRow : OpenClaim := { program := "ytbmefccljbndeaa", sum := "b666fed73d0ed57d035227cdac97718c4dc6d0faee2b802a18b0093b417c3097", func := "feathermark/plumelaw.DuelSays", spec := "duelSays", unfollowed := true, recurses := true, apart := false, narrowed := true }
def DuelSaysUptoSaid : Prop := duelSaysUptoRow.holds Try.pinned (OpenSpec.upto duelSaysSpec)

/-- 'plumelaw.DuelVotes', WHERE WHAT IT READS IS OF BULK AT MOST 1048576: true; the input reads as it did. -/
def duelVotesUptoRow : OpenClaim := { program := "ytbmefccljbndeaa", sum := "b666fed73d0ed57d035227cdac97718c4dc6d0faee2b802a18b0093b417c3097", func := "feathermark/plumelaw.DuelVotes", spec := "duelVotes", unfollowed := true, recurses := true, apart := false, narrowed := true }
def DuelVotesUptoSaid : Prop := duelVotesUptoRow.holds Try.pinned (OpenSpec.upto duelVotesSpec)

/-- 'plumekeep.DuelTop', WHERE WHAT IT READS IS OF BULK AT MOST 1048576: true; the input reads as it did. -/
def duelTopUptoRow : OpenClaim := { program := "ytbmefccljbndeaa", sum := "b666fed73d0ed57d035227cdac97718c4dc6d0faee2b802a18b0093b417c3097", func := "feathermark/plumekeep.DuelTop", spec := "duelTop", unfollowed := true, recurses := true, apart := false, narrowed := true }
def DuelTopUptoSaid : Prop := duelTopUptoRow.holds Try.pinned (OpenSpec.upto duelTopSpec)

/-- 'plumekeep.DuelWins', WHERE WHAT IT READS IS OF BULK AT MOST 1048576: true; the input reads as it did. -/
def duelWinsUptoRow : OpenClaim := { program := "ytbmefccljbndeaa", sum := "b666fed73d0ed57d035227cdac97718c4dc6d0faee2b802a18b0093b417c3097", func := "feathermark/plumekeep.DuelWins", spec := "duelWins", unfollowed := true, recurses := true, apart := false, narrowed := true }
def DuelWinsUptoSaid : Prop := duelWinsUptoRow.holds Try.pinned (OpenSpec.upto duelWinsSpec)

/-- 'plumekeep.DuelWorst', WHERE WHAT IT READS IS OF BULK AT MOST 1048576: true; the input reads as it did. -/
def duelWorstUptoRow : OpenClaim := { program := "ytbmefccljbndeaa", sum := "b666fed73d0ed57d035227cdac97718c4dc6d0faee2b802a18b0093b417c3097", func := "feathermark/plumekeep.DuelWorst", spec := "duelWorst", unfollowed := true, recurses := true, apart := false, narrowed := true }
def DuelWorstUptoSaid : Prop := duelWorstUptoRow.holds Try.pinned (OpenSpec.upto duelWorstSpec)

/-- 'plumekeep.DuelMcGarvey', WHERE WHAT IT READS IS OF BULK AT MOST 1048576: true; the input reads as it did. -/
def duelMcGarveyUptoRow : OpenClaim := { program := "ytbmefccljbndeaa", sum := "b666fed73d0ed57d035227cdac97718c4dc6d0faee2b802a18b0093b417c3097", func := "feathermark/plumekeep.DuelMcGarvey", spec := "duelMcGarvey", unfollowed := true, recurses := true, apart := false, narrowed := true }
def DuelMcGarveyUptoSaid : Prop := duelMcGarveyUptoRow.holds Try.pinned (OpenSpec.upto duelMcGarveySpec)

end Rows
end Go.Proofs.Ytbmefccljbndeaa

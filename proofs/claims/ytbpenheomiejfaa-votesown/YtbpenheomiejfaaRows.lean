/-
  No cell of these rows narrows 'for every input' (looked for: loops, veiled, ifaces, maps, wideKeys, modest, calm, conditions, laid).
  DERIVED. THE GIVEN ROWS OF THIS SEAT. 8 by the template 'for every input the law returns true; each argument reads behind the call as it read before'; 0 by the template 'total and deterministic' (their statements: YtbpenheomiejfaaTotals.lean).
  GIVEN WITH THE SEED: the statements are not yours to turn. If you find one false, say at which input.
  Laid BY PROGRAM, IN A SANDBOX (cutbox-rows.mjs): the forced cells as the released guide's own fill.sh prints them over the translation a54382bb37b2e489… (all of the seat's roots in one cut). By AI agents, Wed Nov 11 2026. No macro, syntax, notation, axiom, sorry.
-/
import Derived.Test.YtbpenheomiejfaaChecked
import GoSem.Claim
import GoSem.ClaimJoined
import GoSem.ClaimMapViews
import Derived.JoinedTies
import Derived.KernelRfl
namespace Go.Proofs.Ytbpenheomiejfaa
/- THE CELL 'sum', in the pinned program and in every row, IS THE sha256 OF THE DUMP (.gsa) THAT YtbpenheomiejfaaProg.lean LOADS. Nothing in Lean hashes anything: it is a label: what it is worth is what the hold of that sum in a sandbox is worth. -/
noncomputable def Try.pinned : Pinned := { name := "ytbpenheomiejfaa", sum := "a54382bb37b2e489e4ceb23b6b9343fbfc7086c9acf052d10f56b0cefcb0b274", checked := Try.checked }
namespace Rows
def none {H : Type} : Left H := { results := [], args := [] }

/-- 'plumelaw.RulesSay': WHATEVER THE INPUT: true; the input reads as it did. -/
def rulesSaySpec : ChangeSpec := { name := "rulesSay", fn := fun _ => fun
  | [d1, d2, d3] => { results := [.lit (.bool true)], args := [d1, d2, d3] }
  | _ => none }
def rulesSayRow : OpenClaim := { program := "ytbpenheomiejfaa", sum := "a54382bb37b2e489e4ceb23b6b9343fbfc7086c9acf052d10f56b0cefcb0b274", func := "feathermark/plumelaw.RulesSay", spec := "rulesSay", unfollowed := true, recurses := true, apart := false }
def RulesSaySaid : Prop := rulesSayRow.holds Try.pinned (OpenSpec.ofChange rulesSaySpec)

/-- ITS FALSE NEIGHBOUR: 'it returns false'. Refute it at one input. -/
def rulesSayWrong : ChangeSpec := { name := "rulesSay", fn := fun _ => fun
  | [d1, d2, d3] => { results := [.lit (.bool false)], args := [d1, d2, d3] }
  | _ => none }
def RulesSayWrongFalsely : Prop := rulesSayRow.holds Try.pinned (OpenSpec.ofChange rulesSayWrong)

/-- 'plumekeep.RulesMay': WHATEVER THE INPUT: true; the input reads as it did. -/
def rulesMaySpec : ChangeSpec := { name := "rulesMay", fn := fun _ => fun
  | [d1, d2] => { results := [.lit (.bool true)], args := [d1, d2] }
  | _ => none }
def rulesMayRow : OpenClaim := { program := "ytbpenheomiejfaa", sum := "a54382bb37b2e489e4ceb23b6b9343fbfc7086c9acf052d10f56b0cefcb0b274", func := "feathermark/plumekeep.RulesMay", spec := "rulesMay", unfollowed := true, recurses := true, apart := false }
def RulesMaySaid : Prop := rulesMayRow.holds Try.pinned (OpenSpec.ofChange rulesMaySpec)

/-- ITS FALSE NEIGHBOUR: 'it returns false'. Refute it at one input. -/
def rulesMayWrong : ChangeSpec := { name := "rulesMay", fn := fun _ => fun
  | [d1, d2] => { results := [.lit (.bool false)], args := [d1, d2] }
  | _ => none }
def RulesMayWrongFalsely : Prop := rulesMayRow.holds Try.pinned (OpenSpec.ofChange rulesMayWrong)

/-- 'plumekeep.RulesRaise': WHATEVER THE INPUT: true; the input reads as it did. -/
def rulesRaiseSpec : ChangeSpec := { name := "rulesRaise", fn := fun _ => fun
  | [d1, d2, d3, d4] => { results := [.lit (.bool true)], args := [d1, d2, d3, d4] }
  | _ => none }
def rulesRaiseRow : OpenClaim := { program := "ytbpenheomiejfaa", sum := "a54382bb37b2e489e4ceb23b6b9343fbfc7086c9acf052d10f56b0cefcb0b274", func := "feathermark/plumekeep.RulesRaise", spec := "rulesRaise", unfollowed := true, recurses := true, apart := false }
def RulesRaiseSaid : Prop := rulesRaiseRow.holds Try.pinned (OpenSpec.ofChange rulesRaiseSpec)

/-- ITS FALSE NEIGHBOUR: 'it returns false'. Refute it at one input. -/
def rulesRaiseWrong : ChangeSpec := { name := "rulesRaise", fn := fun _ => fun
  | [d1, d2, d3, d4] => { results := [.lit (.bool false)], args := [d1, d2, d3, d4] }
  | _ => none }
def RulesRaiseWrongFalsely : Prop := rulesRaiseRow.holds Try.pinned (OpenSpec.ofChange rulesRaiseWrong)

/-- 'plumekeep.RulesBeater': WHATEVER THE INPUT: true; the input reads as it did. -/
def rulesBeaterSpec : ChangeSpec := { name := "rulesBeater", fn := fun _ => fun
  | [d1, d2] => { results := [.lit (.bool true)], args := [d1, d2] }
  | _ => none }
def rulesBeaterRow : OpenClaim := { program := "ytbpenheomiejfaa", sum := "a54382bb37b2e489e4ceb23b6b9343fbfc7086c9acf052d10f56b0cefcb0b274", func := "feathermark/plumekeep.RulesBeater", spec := "rulesBeater", unfollowed := true, recurses := true, apart := false }
def RulesBeaterSaid : Prop := rulesBeaterRow.holds Try.pinned (OpenSpec.ofChange rulesBeaterSpec)

/-- ITS FALSE NEIGHBOUR: 'it returns false'. Refute it at one input. -/
def rulesBeaterWrong : ChangeSpec := { name := "rulesBeater", fn := fun _ => fun
  | [d1, d2] => { results := [.lit (.bool false)], args := [d1, d2] }
  | _ => none }
def RulesBeaterWrongFalsely : Prop := rulesBeaterRow.holds Try.pinned (OpenSpec.ofChange rulesBeaterWrong)

/-- 'plumekeep.RulesNames': WHATEVER THE INPUT: true; the input reads as it did. -/
def rulesNamesSpec : ChangeSpec := { name := "rulesNames", fn := fun _ => fun
  | [d1, d2, d3, d4] => { results := [.lit (.bool true)], args := [d1, d2, d3, d4] }
  | _ => none }
def rulesNamesRow : OpenClaim := { program := "ytbpenheomiejfaa", sum := "a54382bb37b2e489e4ceb23b6b9343fbfc7086c9acf052d10f56b0cefcb0b274", func := "feathermark/plumekeep.RulesNames", spec := "rulesNames", unfollowed := true, recurses := true, apart := false }
def RulesNamesSaid : Prop := rulesNamesRow.holds Try.pinned (OpenSpec.ofChange rulesNamesSpec)

/-- ITS FALSE NEIGHBOUR: 'it returns false'. Refute it at one input. -/
def rulesNamesWrong : ChangeSpec := { name := "rulesNames", fn := fun _ => fun
  | [d1, d2, d3, d4] => { results := [.lit (.bool false)], args := [d1, d2, d3, d4] }
  | _ => none }
def RulesNamesWrongFalsely : Prop := rulesNamesRow.holds Try.pinned (OpenSpec.ofChange rulesNamesWrong)

/-- 'plumekeep.RulesMost': WHATEVER THE INPUT: true; the input reads as it did. -/
def rulesMostSpec : ChangeSpec := { name := "rulesMost", fn := fun _ => fun
  | [d1, d2, d3] => { results := [.lit (.bool true)], args := [d1, d2, d3] }
  | _ => none }
def rulesMostRow : OpenClaim := { program := "ytbpenheomiejfaa", sum := "a54382bb37b2e489e4ceb23b6b9343fbfc7086c9acf052d10f56b0cefcb0b274", func := "feathermark/plumekeep.RulesMost", spec := "rulesMost", unfollowed := true, recurses := true, apart := false }
def RulesMostSaid : Prop := rulesMostRow.holds Try.pinned (OpenSpec.ofChange rulesMostSpec)

/-- ITS FALSE NEIGHBOUR: 'it returns false'. Refute it at one input. -/
def rulesMostWrong : ChangeSpec := { name := "rulesMost", fn := fun _ => fun
  | [d1, d2, d3] => { results := [.lit (.bool false)], args := [d1, d2, d3] }
  | _ => none }
def RulesMostWrongFalsely : Prop := rulesMostRow.holds Try.pinned (OpenSpec.ofChange rulesMostWrong)

/-- 'plumekeep.RulesLoser': WHATEVER THE INPUT: true; the input reads as it did. -/
def rulesLoserSpec : ChangeSpec := { name := "rulesLoser", fn := fun _ => fun
  | [d1, d2] => { results := [.lit (.bool true)], args := [d1, d2] }
  | _ => none }
def rulesLoserRow : OpenClaim := { program := "ytbpenheomiejfaa", sum := "a54382bb37b2e489e4ceb23b6b9343fbfc7086c9acf052d10f56b0cefcb0b274", func := "feathermark/plumekeep.RulesLoser", spec := "rulesLoser", unfollowed := true, recurses := true, apart := false }
def RulesLoserSaid : Prop := rulesLoserRow.holds Try.pinned (OpenSpec.ofChange rulesLoserSpec)

/-- ITS FALSE NEIGHBOUR: 'it returns false'. Refute it at one input. -/
def rulesLoserWrong : ChangeSpec := { name := "rulesLoser", fn := fun _ => fun
  | [d1, d2] => { results := [.lit (.bool false)], args := [d1, d2] }
  | _ => none }
def RulesLoserWrongFalsely : Prop := rulesLoserRow.holds Try.pinned (OpenSpec.ofChange rulesLoserWrong)

/-- 'plumekeep.VotesOwn': WHATEVER THE INPUT: true; the input reads as it did. -/
def votesOwnSpec : ChangeSpec := { name := "votesOwn", fn := fun _ => fun
  | [d1, d2, d3, d4] => { results := [.lit (.bool true)], args := [d1, d2, d3, d4] }
  | _ => none }
def votesOwnRow : OpenClaim := { program := "ytbpenheomiejfaa", sum := "a54382bb37b2e489e4ceb23b6b9343fbfc7086c9acf052d10f56b0cefcb0b274", func := "feathermark/plumekeep.VotesOwn", spec := "votesOwn", unfollowed := true, recurses := true, apart := false }
def VotesOwnSaid : Prop := votesOwnRow.holds Try.pinned (OpenSpec.ofChange votesOwnSpec)

/-- ITS FALSE NEIGHBOUR: 'it returns false'. Refute it at one input. -/
def votesOwnWrong : ChangeSpec := { name := "votesOwn", fn := fun _ => fun
  | [d1, d2, d3, d4] => { results := [.lit (.bool false)], args := [d1, d2, d3, d4] }
  | _ => none }
def VotesOwnWrongFalsely : Prop := votesOwnRow.holds Try.pinned (OpenSpec.ofChange votesOwnWrong)

/- THE SECOND FORM. 'bulk': how many values and letters a reading holds, each counted each time it is reached (what is shared counts as often as it is met; a slice's spare places count too). A statement '..UptoSaid' is the law's where the arguments, and the package variables that the reading takes, are together of bulk at most 1048576: NARROWER than '..Said'. Prove '..Said' where nothing that the law and all that it calls make is longer than what came in: it says more and counts as full. Else prove '..UptoSaid'. A law counts once. -/
mutual
def uptoBulk {H : Type} : DataW H → Nat
  | .lit (.string bytes) => bytes.length + 1
  | .lit _ => 1
  | .nil => 1
  | .ptr d => uptoBulk d + 1
  | .slice elems spare => uptoBulkAll elems + uptoBulkAll spare + 1
  | .agg parts => uptoBulkAll parts + 1
  | .iface _ d => uptoBulk d + 1
  | .map entries => uptoBulkEntries entries + 1
  | .held _ => 1
def uptoBulkAll {H : Type} : List (DataW H) → Nat
  | [] => 0
  | d :: r => uptoBulk d + uptoBulkAll r
def uptoBulkEntries {H : Type} : List (Lit × DataW H) → Nat
  | [] => 0
  | x :: r => uptoBulkEntry x + uptoBulkEntries r
def uptoBulkEntry {H : Type} : Lit × DataW H → Nat
  | (.string bytes, d) => bytes.length + uptoBulk d + 1
  | (_, d) => uptoBulk d + 1
 end
def uptoSmall : (H : Type) → List (DataW H) → Bool := fun _ ds => decide (uptoBulkAll ds ≤ 1048576)
def OpenSpec.upto (s : _root_.Go.ChangeSpec) : _root_.Go.OpenSpec := { _root_.Go.OpenSpec.ofChange s with cond := some uptoSmall }

/-- 'plumelaw.RulesSay', WHERE WHAT IT READS IS OF BULK AT MOST 1048576: true; the input reads as it did. -/
def rulesSayUptoRow : OpenClaim := { program := "ytbpenheomiejfaa", sum := "a54382bb37b2e489e4ceb23b6b9343fbfc7086c9acf052d10f56b0cefcb0b274", func := "feathermark/plumelaw.RulesSay", spec := "rulesSay", unfollowed := true, recurses := true, apart := false, narrowed := true }
def RulesSayUptoSaid : Prop := rulesSayUptoRow.holds Try.pinned (OpenSpec.upto rulesSaySpec)

/-- 'plumekeep.RulesMay', WHERE WHAT IT READS IS OF BULK AT MOST 1048576: true; the input reads as it did. -/
def rulesMayUptoRow : OpenClaim := { program := "ytbpenheomiejfaa", sum := "a54382bb37b2e489e4ceb23b6b9343fbfc7086c9acf052d10f56b0cefcb0b274", func := "feathermark/plumekeep.RulesMay", spec := "rulesMay", unfollowed := true, recurses := true, apart := false, narrowed := true }
def RulesMayUptoSaid : Prop := rulesMayUptoRow.holds Try.pinned (OpenSpec.upto rulesMaySpec)

/-- 'plumekeep.RulesRaise', WHERE WHAT IT READS IS OF BULK AT MOST 1048576: true; the input reads as it did. -/
def rulesRaiseUptoRow : OpenClaim := { program := "ytbpenheomiejfaa", sum := "a54382bb37b2e489e4ceb23b6b9343fbfc7086c9acf052d10f56b0cefcb0b274", func := "feathermark/plumekeep.RulesRaise", spec := "rulesRaise", unfollowed := true, recurses := true, apart := false, narrowed := true }
def RulesRaiseUptoSaid : Prop := rulesRaiseUptoRow.holds Try.pinned (OpenSpec.upto rulesRaiseSpec)

/-- 'plumekeep.RulesBeater', WHERE WHAT IT READS IS OF BULK AT MOST 1048576: true; the input reads as it did. -/
def rulesBeaterUptoRow : OpenClaim := { program := "ytbpenheomiejfaa", sum := "a54382bb37b2e489e4ceb23b6b9343fbfc7086c9acf052d10f56b0cefcb0b274", func := "feathermark/plumekeep.RulesBeater", spec := "rulesBeater", unfollowed := true, recurses := true, apart := false, narrowed := true }
def RulesBeaterUptoSaid : Prop := rulesBeaterUptoRow.holds Try.pinned (OpenSpec.upto rulesBeaterSpec)

/-- 'plumekeep.RulesNames', WHERE WHAT IT READS IS OF BULK AT MOST 1048576: true; the input reads as it did. -/
def rulesNamesUptoRow : OpenClaim := { program := "ytbpenheomiejfaa", sum := "a54382bb37b2e489e4ceb23b6b9343fbfc7086c9acf052d10f56b0cefcb0b274", func := "feathermark/plumekeep.RulesNames", spec := "rulesNames", unfollowed := true, recurses := true, apart := false, narrowed := true }
def RulesNamesUptoSaid : Prop := rulesNamesUptoRow.holds Try.pinned (OpenSpec.upto rulesNamesSpec)

/-- 'plumekeep.RulesMost', WHERE WHAT IT READS IS OF BULK AT MOST 1048576: true; the input reads as it did. -/
def rulesMostUptoRow : OpenClaim := { program := "ytbpenheomiejfaa", sum := "a54382bb37b2e489e4ceb23b6b9343fbfc7086c9acf052d10f56b0cefcb0b274", func := "feathermark/plumekeep.RulesMost", spec := "rulesMost", unfollowed := true, recurses := true, apart := false, narrowed := true }
def RulesMostUptoSaid : Prop := rulesMostUptoRow.holds Try.pinned (OpenSpec.upto rulesMostSpec)

/-- 'plumekeep.RulesLoser', WHERE WHAT IT READS IS OF BULK AT MOST 1048576: true; the input reads as it did. -/
def rulesLoserUptoRow : OpenClaim := { program := "ytbpenheomiejfaa", sum := "a54382bb37b2e489e4ceb23b6b9343fbfc7086c9acf052d10f56b0cefcb0b274", func := "feathermark/plumekeep.RulesLoser", spec := "rulesLoser", unfollowed := true, recurses := true, apart := false, narrowed := true }
def RulesLoserUptoSaid : Prop := rulesLoserUptoRow.holds Try.pinned (OpenSpec.upto rulesLoserSpec)

/-- 'plumekeep.VotesOwn', WHERE WHAT IT READS IS OF BULK AT MOST 1048576: true; the input reads as it did. -/
def votesOwnUptoRow : OpenClaim := { program := "ytbpenheomiejfaa", sum := "a54382bb37b2e489e4ceb23b6b9343fbfc7086c9acf052d10f56b0cefcb0b274", func := "feathermark/plumekeep.VotesOwn", spec := "votesOwn", unfollowed := true, recurses := true, apart := false, narrowed := true }
def VotesOwnUptoSaid : Prop := votesOwnUptoRow.holds Try.pinned (OpenSpec.upto votesOwnSpec)

end Rows
end Go.Proofs.Ytbpenheomiejfaa

/-
  No cell of these rows narrows 'for every input' (looked for: loops, veiled, ifaces, maps, wideKeys, modest, calm, conditions, laid).
  DERIVED. THE GIVEN ROWS OF THIS SEAT. 5 by the template 'for every input the law returns true; each argument reads behind the call as it read before'; 0 by the template 'total and deterministic' (their statements: YtdbejalcedpdjaaTotals.lean).
  GIVEN WITH THE SEED: the statements are not yours to turn. If you find one false, say at which input.
  Laid BY PROGRAM, IN A SANDBOX (cutbox-rows.mjs): the forced cells as the released guide's own fill.sh prints them over the translation 5ef189ca29449c21… (all of the seat's roots in one cut). By AI agents, Wed Nov 11 2026. No macro, syntax, notation, axiom, sorry.
-/
import Derived.Test.YtdbejalcedpdjaaChecked
import GoSem.Claim
import GoSem.ClaimJoined
import GoSem.ClaimMapViews
import Derived.JoinedTies
import Derived.KernelRfl
namespace Go.Proofs.Ytdbejalcedpdjaa
/- THE CELL 'sum', in the pinned program and in every row, IS THE sha256 OF THE DUMP (.gsa) THAT YtdbejalcedpdjaaProg.lean LOADS. Nothing in Lean hashes anything: it is a label: what it is worth is what the hold of that sum in a sandbox is worth. -/
noncomputable def Try.pinned : Pinned := { name := "ytdbejalcedpdjaa", sum := "5ef189ca29449c21af7dd8533fe9aa1e0e9e087c0c1df2e62c334f89f83ccebe", checked := Try.checked }
namespace Rows
def none {H : Type} : Left H := { results := [], args := [] }

/-- 'plumelaw.Names': WHATEVER THE INPUT: true; the input reads as it did. -/
def namesSpec : ChangeSpec := { name := "names", fn := fun _ => fun
  | [] => { results := [.lit (.bool true)], args := [] }
  | _ => none }
def namesRow : OpenClaim := { program := "ytdbejalcedpdjaa", sum := "5ef189ca29449c21af7dd8533fe9aa1e0e9e087c0c1df2e62c334f89f83ccebe", func := "feathermark/plumelaw.Names", spec := "names", apart := false }
def NamesSaid : Prop := namesRow.holds Try.pinned (OpenSpec.ofChange namesSpec)

/-- ITS FALSE NEIGHBOUR: 'it returns false'. Refute it at one input. -/
def namesWrong : ChangeSpec := { name := "names", fn := fun _ => fun
  | [] => { results := [.lit (.bool false)], args := [] }
  | _ => none }
def NamesWrongFalsely : Prop := namesRow.holds Try.pinned (OpenSpec.ofChange namesWrong)

/-- 'plumelaw.OrderSays': WHATEVER THE INPUT: true; the input reads as it did. -/
def orderSaysSpec : ChangeSpec := { name := "orderSays", fn := fun _ => fun
  | [d1, d2, d3, d4] => { results := [.lit (.bool true)], args := [d1, d2, d3, d4] }
  | _ => none }
def orderSaysRow : OpenClaim := { program := "ytdbejalcedpdjaa", sum := "5ef189ca29449c21af7dd8533fe9aa1e0e9e087c0c1df2e62c334f89f83ccebe", func := "feathermark/plumelaw.OrderSays", spec := "orderSays", unfollowed := true, recurses := true, apart := false }
def OrderSaysSaid : Prop := orderSaysRow.holds Try.pinned (OpenSpec.ofChange orderSaysSpec)

/-- ITS FALSE NEIGHBOUR: 'it returns false'. Refute it at one input. -/
def orderSaysWrong : ChangeSpec := { name := "orderSays", fn := fun _ => fun
  | [d1, d2, d3, d4] => { results := [.lit (.bool false)], args := [d1, d2, d3, d4] }
  | _ => none }
def OrderSaysWrongFalsely : Prop := orderSaysRow.holds Try.pinned (OpenSpec.ofChange orderSaysWrong)

/-- 'plumekeep.OrderFar': WHATEVER THE INPUT: true; the input reads as it did. -/
def orderFarSpec : ChangeSpec := { name := "orderFar", fn := fun _ => fun
  | [d1, d2, d3, d4] => { results := [.lit (.bool true)], args := [d1, d2, d3, d4] }
  | _ => none }
def orderFarRow : OpenClaim := { program := "ytdbejalcedpdjaa", sum := "5ef189ca29449c21af7dd8533fe9aa1e0e9e087c0c1df2e62c334f89f83ccebe", func := "feathermark/plumekeep.OrderFar", spec := "orderFar", unfollowed := true, recurses := true, apart := false }
def OrderFarSaid : Prop := orderFarRow.holds Try.pinned (OpenSpec.ofChange orderFarSpec)

/-- ITS FALSE NEIGHBOUR: 'it returns false'. Refute it at one input. -/
def orderFarWrong : ChangeSpec := { name := "orderFar", fn := fun _ => fun
  | [d1, d2, d3, d4] => { results := [.lit (.bool false)], args := [d1, d2, d3, d4] }
  | _ => none }
def OrderFarWrongFalsely : Prop := orderFarRow.holds Try.pinned (OpenSpec.ofChange orderFarWrong)

/-- 'plumekeep.OrderRaise': WHATEVER THE INPUT: true; the input reads as it did. -/
def orderRaiseSpec : ChangeSpec := { name := "orderRaise", fn := fun _ => fun
  | [d1, d2, d3] => { results := [.lit (.bool true)], args := [d1, d2, d3] }
  | _ => none }
def orderRaiseRow : OpenClaim := { program := "ytdbejalcedpdjaa", sum := "5ef189ca29449c21af7dd8533fe9aa1e0e9e087c0c1df2e62c334f89f83ccebe", func := "feathermark/plumekeep.OrderRaise", spec := "orderRaise", unfollowed := true, recurses := true, apart := false }
def OrderRaiseSaid : Prop := orderRaiseRow.holds Try.pinned (OpenSpec.ofChange orderRaiseSpec)

/-- ITS FALSE NEIGHBOUR: 'it returns false'. Refute it at one input. -/
def orderRaiseWrong : ChangeSpec := { name := "orderRaise", fn := fun _ => fun
  | [d1, d2, d3] => { results := [.lit (.bool false)], args := [d1, d2, d3] }
  | _ => none }
def OrderRaiseWrongFalsely : Prop := orderRaiseRow.holds Try.pinned (OpenSpec.ofChange orderRaiseWrong)

/-- 'plumekeep.OrderAll': WHATEVER THE INPUT: true; the input reads as it did. -/
def orderAllSpec : ChangeSpec := { name := "orderAll", fn := fun _ => fun
  | [d1, d2] => { results := [.lit (.bool true)], args := [d1, d2] }
  | _ => none }
def orderAllRow : OpenClaim := { program := "ytdbejalcedpdjaa", sum := "5ef189ca29449c21af7dd8533fe9aa1e0e9e087c0c1df2e62c334f89f83ccebe", func := "feathermark/plumekeep.OrderAll", spec := "orderAll", apart := false }
def OrderAllSaid : Prop := orderAllRow.holds Try.pinned (OpenSpec.ofChange orderAllSpec)

/-- ITS FALSE NEIGHBOUR: 'it returns false'. Refute it at one input. -/
def orderAllWrong : ChangeSpec := { name := "orderAll", fn := fun _ => fun
  | [d1, d2] => { results := [.lit (.bool false)], args := [d1, d2] }
  | _ => none }
def OrderAllWrongFalsely : Prop := orderAllRow.holds Try.pinned (OpenSpec.ofChange orderAllWrong)

/- THE SECOND FORM. 'bulk': how many values and letters a reading holds, each counted each time it is reached (what is shared counts as often as it is met; a slice's spare places count too). A statement '..UptoSaid' is the law's where the arguments, and the package variables that the reading takes, are together of bulk at most 1048576: NARROWER than '..Said'. Prove '..Said' where nothing that the law and all that it calls make is longer than what came in: it says more and counts as full. Else prove '..UptoSaid'. A law counts once. -/
mutual
def uptoBulk {H : Type} : DataW H → Nat
  | .lit (.string bytes) => bytes.length + 1
  | .lit _ => 1
  | .nil => 1
  | .ptr d => uptoBulk d + 1
  | .slice elems spare => uptoBulkAll elems + uptoBulkAll spare + 1
  | .agg parts => uptoBulkAll parts + 1
  | .iface _ d => uptoBulk d + 1
  | .map entries => uptoBulkEntries entries + 1
  | .held _ => 1
def uptoBulkAll {H : Type} : List (DataW H) → Nat
  | [] => 0
  | d :: r => uptoBulk d + uptoBulkAll r
def uptoBulkEntries {H : Type} : List (Lit × DataW H) → Nat
  | [] => 0
  | x :: r => uptoBulkEntry x + uptoBulkEntries r
def uptoBulkEntry {H : Type} : Lit × DataW H → Nat
  | (.string bytes, d) => bytes.length + uptoBulk d + 1
  | (_, d) => uptoBulk d + 1
 end
def uptoSmall : (H : Type) → List (DataW H) → Bool := fun _ ds => decide (uptoBulkAll ds ≤ 1048576)
def OpenSpec.upto (s : _root_.Go.ChangeSpec) : _root_.Go.OpenSpec := { _root_.Go.OpenSpec.ofChange s with cond := some uptoSmall }

/-- 'plumelaw.Names', WHERE WHAT IT READS IS OF BULK AT MOST 1048576: true; the input reads as it did. -/
def namesUptoRow : OpenClaim := { program := "ytdbejalcedpdjaa", sum := "5ef189ca29449c21af7dd8533fe9aa1e0e9e087c0c1df2e62c334f89f83ccebe", func := "feathermark/plumelaw.Names", spec := "names", apart := false, narrowed := true }
def NamesUptoSaid : Prop := namesUptoRow.holds Try.pinned (OpenSpec.upto namesSpec)

/-- 'plumelaw.OrderSays', WHERE WHAT IT READS IS OF BULK AT MOST 1048576: true; the input reads as it did. -/
def orderSaysUptoRow : OpenClaim := { program := "ytdbejalcedpdjaa", sum := "5ef189ca29449c21af7dd8533fe9aa1e0e9e087c0c1df2e62c334f89f83ccebe", func := "feathermark/plumelaw.OrderSays", spec := "orderSays", unfollowed := true, recurses := true, apart := false, narrowed := true }
def OrderSaysUptoSaid : Prop := orderSaysUptoRow.holds Try.pinned (OpenSpec.upto orderSaysSpec)

/-- 'plumekeep.OrderFar', WHERE WHAT IT READS IS OF BULK AT MOST 1048576: true; the input reads as it did. -/
def orderFarUptoRow : OpenClaim := { program := "ytdbejalcedpdjaa", sum := "5ef189ca29449c21af7dd8533fe9aa1e0e9e087c0c1df2e62c334f89f83ccebe", func := "feathermark/plumekeep.OrderFar", spec := "orderFar", unfollowed := true, recurses := true, apart := false, narrowed := true }
def OrderFarUptoSaid : Prop := orderFarUptoRow.holds Try.pinned (OpenSpec.upto orderFarSpec)

/-- 'plumekeep.OrderRaise', WHERE WHAT IT READS IS OF BULK AT MOST 1048576: true; the input reads as it did. -/
def orderRaiseUptoRow : OpenClaim := { program := "ytdbejalcedpdjaa", sum := "5ef189ca29449c21af7dd8533fe9aa1e0e9e087c0c1df2e62c334f89f83ccebe", func := "feathermark/plumekeep.OrderRaise", spec := "orderRaise", unfollowed := true, recurses := true, apart := false, narrowed := true }
def OrderRaiseUptoSaid : Prop := orderRaiseUptoRow.holds Try.pinned (OpenSpec.upto orderRaiseSpec)

/-- 'plumekeep.OrderAll', WHERE WHAT IT READS IS OF BULK AT MOST 1048576: true; the input reads as it did. -/
def orderAllUptoRow : OpenClaim := { program := "ytdbejalcedpdjaa", sum := "5ef189ca29449c21af7dd8533fe9aa1e0e9e087c0c1df2e62c334f89f83ccebe", func := "feathermark/plumekeep.OrderAll", spec := "orderAll", apart := false, narrowed := true }
def OrderAllUptoSaid : Prop := orderAllUptoRow.holds Try.pinned (OpenSpec.upto orderAllSpec)

end Rows
end Go.Proofs.Ytdbejalcedpdjaa

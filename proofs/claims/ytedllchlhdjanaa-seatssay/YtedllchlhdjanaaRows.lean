/-
  No cell of these rows narrows 'for every input' (looked for: loops, veiled, ifaces, maps, wideKeys, modest, calm, conditions, laid).
  DERIVED. THE GIVEN ROWS OF THIS SEAT. 6 by the template 'for every input the law returns true; each argument reads behind the call as it read before'; 0 by the template 'total and deterministic' (their statements: YtedllchlhdjanaaTotals.lean).
  GIVEN WITH THE SEED: the statements are not yours to turn. If you find one false, say at which input.
  Laid BY PROGRAM, IN A SANDBOX (cutbox-rows.mjs): the forced cells as the released guide's own fill.sh prints them over the translation 56101435c0e31ac6… (all of the seat's roots in one cut). By AI agents, Wed Nov 11 2026. No macro, syntax, notation, axiom, sorry.
-/
import Derived.Test.YtedllchlhdjanaaChecked
import GoSem.Claim
import GoSem.ClaimJoined
import GoSem.ClaimMapViews
import Derived.JoinedTies
import Derived.KernelRfl
namespace Go.Proofs.Ytedllchlhdjanaa
/- THE CELL 'sum', in the pinned program and in every row, IS THE sha256 OF THE DUMP (.gsa) THAT YtedllchlhdjanaaProg.lean LOADS. Nothing in Lean hashes anything: it is a label: what it is worth is what the hold of that sum in a sandbox is worth. -/
noncomputable def Try.pinned : Pinned := { name := "ytedllchlhdjanaa", sum := "56101435c0e31ac66c4fd6dcf26e057e94bac451df14e74286cadfb82eadb375", checked := Try.checked }
namespace Rows
def none {H : Type} : Left H := { results := [], args := [] }

/-- 'plumelaw.SeatsSay': WHATEVER THE INPUT: true; the input reads as it did. -/
def seatsSaySpec : ChangeSpec := { name := "seatsSay", fn := fun _ => fun
  | [d1, d2, d3] => { results := [.lit (.bool true)], args := [d1, d2, d3] }
  | _ => none }
def seatsSayRow : OpenClaim := { program := "ytedllchlhdjanaa", sum := "56101435c0e31ac66c4fd6dcf26e057e94bac451df14e74286cadfb82eadb375", func := "feathermark/plumelaw.SeatsSay", spec := "seatsSay", unfollowed := true, recurses := true, apart := false }
def SeatsSaySaid : Prop := seatsSayRow.holds Try.pinned (OpenSpec.ofChange seatsSaySpec)

/-- ITS FALSE NEIGHBOUR: 'it returns false'. Refute it at one input. -/
def seatsSayWrong : ChangeSpec := { name := "seatsSay", fn := fun _ => fun
  | [d1, d2, d3] => { results := [.lit (.bool false)], args := [d1, d2, d3] }
  | _ => none }
def SeatsSayWrongFalsely : Prop := seatsSayRow.holds Try.pinned (OpenSpec.ofChange seatsSayWrong)

/-- 'plumekeep.SeatsHouse': WHATEVER THE INPUT: true; the input reads as it did. -/
def seatsHouseSpec : ChangeSpec := { name := "seatsHouse", fn := fun _ => fun
  | [d1, d2, d3] => { results := [.lit (.bool true)], args := [d1, d2, d3] }
  | _ => none }
def seatsHouseRow : OpenClaim := { program := "ytedllchlhdjanaa", sum := "56101435c0e31ac66c4fd6dcf26e057e94bac451df14e74286cadfb82eadb375", func := "feathermark/plumekeep.SeatsHouse", spec := "seatsHouse", unfollowed := true, recurses := true, apart := false }
def SeatsHouseSaid : Prop := seatsHouseRow.holds Try.pinned (OpenSpec.ofChange seatsHouseSpec)

/-- ITS FALSE NEIGHBOUR: 'it returns false'. Refute it at one input. -/
def seatsHouseWrong : ChangeSpec := { name := "seatsHouse", fn := fun _ => fun
  | [d1, d2, d3] => { results := [.lit (.bool false)], args := [d1, d2, d3] }
  | _ => none }
def SeatsHouseWrongFalsely : Prop := seatsHouseRow.holds Try.pinned (OpenSpec.ofChange seatsHouseWrong)

/-- 'plumekeep.SeatsQuota': WHATEVER THE INPUT: true; the input reads as it did. -/
def seatsQuotaSpec : ChangeSpec := { name := "seatsQuota", fn := fun _ => fun
  | [d1, d2] => { results := [.lit (.bool true)], args := [d1, d2] }
  | _ => none }
def seatsQuotaRow : OpenClaim := { program := "ytedllchlhdjanaa", sum := "56101435c0e31ac66c4fd6dcf26e057e94bac451df14e74286cadfb82eadb375", func := "feathermark/plumekeep.SeatsQuota", spec := "seatsQuota", unfollowed := true, recurses := true, apart := false }
def SeatsQuotaSaid : Prop := seatsQuotaRow.holds Try.pinned (OpenSpec.ofChange seatsQuotaSpec)

/-- ITS FALSE NEIGHBOUR: 'it returns false'. Refute it at one input. -/
def seatsQuotaWrong : ChangeSpec := { name := "seatsQuota", fn := fun _ => fun
  | [d1, d2] => { results := [.lit (.bool false)], args := [d1, d2] }
  | _ => none }
def SeatsQuotaWrongFalsely : Prop := seatsQuotaRow.holds Try.pinned (OpenSpec.ofChange seatsQuotaWrong)

/-- 'plumekeep.SeatsDivide': WHATEVER THE INPUT: true; the input reads as it did. -/
def seatsDivideSpec : ChangeSpec := { name := "seatsDivide", fn := fun _ => fun
  | [d1, d2, d3] => { results := [.lit (.bool true)], args := [d1, d2, d3] }
  | _ => none }
def seatsDivideRow : OpenClaim := { program := "ytedllchlhdjanaa", sum := "56101435c0e31ac66c4fd6dcf26e057e94bac451df14e74286cadfb82eadb375", func := "feathermark/plumekeep.SeatsDivide", spec := "seatsDivide", unfollowed := true, recurses := true, apart := false }
def SeatsDivideSaid : Prop := seatsDivideRow.holds Try.pinned (OpenSpec.ofChange seatsDivideSpec)

/-- ITS FALSE NEIGHBOUR: 'it returns false'. Refute it at one input. -/
def seatsDivideWrong : ChangeSpec := { name := "seatsDivide", fn := fun _ => fun
  | [d1, d2, d3] => { results := [.lit (.bool false)], args := [d1, d2, d3] }
  | _ => none }
def SeatsDivideWrongFalsely : Prop := seatsDivideRow.holds Try.pinned (OpenSpec.ofChange seatsDivideWrong)

/-- 'plumekeep.SeatsMore': WHATEVER THE INPUT: true; the input reads as it did. -/
def seatsMoreSpec : ChangeSpec := { name := "seatsMore", fn := fun _ => fun
  | [d1, d2, d3, d4] => { results := [.lit (.bool true)], args := [d1, d2, d3, d4] }
  | _ => none }
def seatsMoreRow : OpenClaim := { program := "ytedllchlhdjanaa", sum := "56101435c0e31ac66c4fd6dcf26e057e94bac451df14e74286cadfb82eadb375", func := "feathermark/plumekeep.SeatsMore", spec := "seatsMore", unfollowed := true, recurses := true, apart := false }
def SeatsMoreSaid : Prop := seatsMoreRow.holds Try.pinned (OpenSpec.ofChange seatsMoreSpec)

/-- ITS FALSE NEIGHBOUR: 'it returns false'. Refute it at one input. -/
def seatsMoreWrong : ChangeSpec := { name := "seatsMore", fn := fun _ => fun
  | [d1, d2, d3, d4] => { results := [.lit (.bool false)], args := [d1, d2, d3, d4] }
  | _ => none }
def SeatsMoreWrongFalsely : Prop := seatsMoreRow.holds Try.pinned (OpenSpec.ofChange seatsMoreWrong)

/-- 'plumekeep.SeatsTwo': WHATEVER THE INPUT: true; the input reads as it did. -/
def seatsTwoSpec : ChangeSpec := { name := "seatsTwo", fn := fun _ => fun
  | [d1, d2, d3] => { results := [.lit (.bool true)], args := [d1, d2, d3] }
  | _ => none }
def seatsTwoRow : OpenClaim := { program := "ytedllchlhdjanaa", sum := "56101435c0e31ac66c4fd6dcf26e057e94bac451df14e74286cadfb82eadb375", func := "feathermark/plumekeep.SeatsTwo", spec := "seatsTwo", unfollowed := true, recurses := true, apart := false }
def SeatsTwoSaid : Prop := seatsTwoRow.holds Try.pinned (OpenSpec.ofChange seatsTwoSpec)

/-- ITS FALSE NEIGHBOUR: 'it returns false'. Refute it at one input. -/
def seatsTwoWrong : ChangeSpec := { name := "seatsTwo", fn := fun _ => fun
  | [d1, d2, d3] => { results := [.lit (.bool false)], args := [d1, d2, d3] }
  | _ => none }
def SeatsTwoWrongFalsely : Prop := seatsTwoRow.holds Try.pinned (OpenSpec.ofChange seatsTwoWrong)

/- THE SECOND FORM. 'bulk': how many values and letters a reading holds, each counted each time it is reached (what is shared counts as often as it is met; a slice's spare places count too). A statement '..UptoSaid' is the law's where the arguments, and the package variables that the reading takes, are together of bulk at most 1048576: NARROWER than '..Said'. Prove '..Said' where nothing that the law and all that it calls make is longer than what came in: it says more and counts as full. Else prove '..UptoSaid'. A law counts once. -/
mutual
def uptoBulk {H : Type} : DataW H → Nat
  | .lit (.string bytes) => bytes.length + 1
  | .lit _ => 1
  | .nil => 1
  | .ptr d => uptoBulk d + 1
  | .slice elems spare => uptoBulkAll elems + uptoBulkAll spare + 1
  | .agg parts => uptoBulkAll parts + 1
  | .iface _ d => uptoBulk d + 1
  | .map entries => uptoBulkEntries entries + 1
  | .held _ => 1
def uptoBulkAll {H : Type} : List (DataW H) → Nat
  | [] => 0
  | d :: r => uptoBulk d + uptoBulkAll r
def uptoBulkEntries {H : Type} : List (Lit × DataW H) → Nat
  | [] => 0
  | x :: r => uptoBulkEntry x + uptoBulkEntries r
def uptoBulkEntry {H : Type} : Lit × DataW H → Nat
  | (.string bytes, d) => bytes.length + uptoBulk d + 1
  | (_, d) => uptoBulk d + 1
 end
def uptoSmall : (H : Type) → List (DataW H) → Bool := fun _ ds => decide (uptoBulkAll ds ≤ 1048576)
def OpenSpec.upto (s : _root_.Go.ChangeSpec) : _root_.Go.OpenSpec := { _root_.Go.OpenSpec.ofChange s with cond := some uptoSmall }

/-- 'plumelaw.SeatsSay', WHERE WHAT IT READS IS OF BULK AT MOST 1048576: true; the input reads as it did. -/
def seatsSayUptoRow : OpenClaim := { program := "ytedllchlhdjanaa", sum := "56101435c0e31ac66c4fd6dcf26e057e94bac451df14e74286cadfb82eadb375", func := "feathermark/plumelaw.SeatsSay", spec := "seatsSay", unfollowed := true, recurses := true, apart := false, narrowed := true }
def SeatsSayUptoSaid : Prop := seatsSayUptoRow.holds Try.pinned (OpenSpec.upto seatsSaySpec)

/-- 'plumekeep.SeatsHouse', WHERE WHAT IT READS IS OF BULK AT MOST 1048576: true; the input reads as it did. -/
def seatsHouseUptoRow : OpenClaim := { program := "ytedllchlhdjanaa", sum := "56101435c0e31ac66c4fd6dcf26e057e94bac451df14e74286cadfb82eadb375", func := "feathermark/plumekeep.SeatsHouse", spec := "seatsHouse", unfollowed := true, recurses := true, apart := false, narrowed := true }
def SeatsHouseUptoSaid : Prop := seatsHouseUptoRow.holds Try.pinned (OpenSpec.upto seatsHouseSpec)

/-- 'plumekeep.SeatsQuota', WHERE WHAT IT READS IS OF BULK AT MOST 1048576: true; the input reads as it did. -/
def seatsQuotaUptoRow : OpenClaim := { program := "ytedllchlhdjanaa", sum := "56101435c0e31ac66c4fd6dcf26e057e94bac451df14e74286cadfb82eadb375", func := "feathermark/plumekeep.SeatsQuota", spec := "seatsQuota", unfollowed := true, recurses := true, apart := false, narrowed := true }
def SeatsQuotaUptoSaid : Prop := seatsQuotaUptoRow.holds Try.pinned (OpenSpec.upto seatsQuotaSpec)

/-- 'plumekeep.SeatsDivide', WHERE WHAT IT READS IS OF BULK AT MOST 1048576: true; the input reads as it did. -/
def seatsDivideUptoRow : OpenClaim := { program := "ytedllchlhdjanaa", sum := "56101435c0e31ac66c4fd6dcf26e057e94bac451df14e74286cadfb82eadb375", func := "feathermark/plumekeep.SeatsDivide", spec := "seatsDivide", unfollowed := true, recurses := true, apart := false, narrowed := true }
def SeatsDivideUptoSaid : Prop := seatsDivideUptoRow.holds Try.pinned (OpenSpec.upto seatsDivideSpec)

/-- 'plumekeep.SeatsMore', WHERE WHAT IT READS IS OF BULK AT MOST 1048576: true; the input reads as it did. -/
def seatsMoreUptoRow : OpenClaim := { program := "ytedllchlhdjanaa", sum := "56101435c0e31ac66c4fd6dcf26e057e94bac451df14e74286cadfb82eadb375", func := "feathermark/plumekeep.SeatsMore", spec := "seatsMore", unfollowed := true, recurses := true, apart := false, narrowed := true }
def SeatsMoreUptoSaid : Prop := seatsMoreUptoRow.holds Try.pinned (OpenSpec.upto seatsMoreSpec)

/-- 'plumekeep.SeatsTwo', WHERE WHAT IT READS IS OF BULK AT MOST 1048576: true; the input reads as it did. -/
def seatsTwoUptoRow : OpenClaim := { program := "ytedllchlhdjanaa", sum := "56101435c0e31ac66c4fd6dcf26e057e94bac451df14e74286cadfb82eadb375", func := "feathermark/plumekeep.SeatsTwo", spec := "seatsTwo", unfollowed := true, recurses := true, apart := false, narrowed := true }
def SeatsTwoUptoSaid : Prop := seatsTwoUptoRow.holds Try.pinned (OpenSpec.upto seatsTwoSpec)

end Rows
end Go.Proofs.Ytedllchlhdjanaa

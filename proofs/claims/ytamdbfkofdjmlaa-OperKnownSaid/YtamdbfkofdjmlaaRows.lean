/-
  NARROWER THAN 'FOR EVERY INPUT', by the rows' own cells (each row's printed sentence says how): OperGets: loops · OperRows: loops.
  DERIVED. THE GIVEN ROWS OF THIS SEAT. 4 by the template 'for every input the law returns true; each argument reads behind the call as it read before'; 0 by the template 'total and deterministic' (their statements: YtamdbfkofdjmlaaTotals.lean).
  GIVEN WITH THE SEED: the statements are not yours to turn. If you find one false, say at which input.
  Laid BY PROGRAM, IN A SANDBOX (cutbox-rows.mjs): the forced cells as the released guide's own fill.sh prints them over the translation 4fca9c6aed8f08bc… (all of the seat's roots in one cut). By AI agents, Wed Nov 11 2026. No macro, syntax, notation, axiom, sorry.
-/
import Derived.Test.YtamdbfkofdjmlaaChecked
import GoSem.Claim
import GoSem.ClaimJoined
import GoSem.ClaimMapViews
import Derived.JoinedTies
import Derived.KernelRfl
namespace Go.Proofs.Ytamdbfkofdjmlaa
/- THE CELL 'sum', in the pinned program and in every row, IS THE sha256 OF THE DUMP (.gsa) THAT YtamdbfkofdjmlaaProg.lean LOADS. Nothing in Lean hashes anything: it is a label: what it is worth is what the hold of that sum in a sandbox is worth. -/
noncomputable def Try.pinned : Pinned := { name := "ytamdbfkofdjmlaa", sum := "4fca9c6aed8f08bc20932303ea66a80161d29fe00b0ef6234e2ae9b230ae308f", checked := Try.checked }
namespace Rows
def none {H : Type} : Left H := { results := [], args := [] }

/-- 'changelinglaw17.OperKnown': WHATEVER THE INPUT: true; the input reads as it did. -/
def operKnownSpec : ChangeSpec := { name := "operKnown", fn := fun _ => fun
  | [] => { results := [.lit (.bool true)], args := [] }
  | _ => none }
def operKnownRow : OpenClaim := { program := "ytamdbfkofdjmlaa", sum := "4fca9c6aed8f08bc20932303ea66a80161d29fe00b0ef6234e2ae9b230ae308f", func := "changeling/changelinglaw17.OperKnown", spec := "operKnown", unfollowed := true, recurses := true, plainKeys := false, apart := false }
def OperKnownSaid : Prop := operKnownRow.holds Try.pinned (OpenSpec.ofChange operKnownSpec)

/-- ITS FALSE NEIGHBOUR: 'it returns false'. Refute it at one input. -/
def operKnownWrong : ChangeSpec := { name := "operKnown", fn := fun _ => fun
  | [] => { results := [.lit (.bool false)], args := [] }
  | _ => none }
def OperKnownWrongFalsely : Prop := operKnownRow.holds Try.pinned (OpenSpec.ofChange operKnownWrong)

/-- 'changelinglaw17.OperGets': WHATEVER THE INPUT: true; the input reads as it did. -/
def operGetsSpec : ChangeSpec := { name := "operGets", fn := fun _ => fun
  | [d1, d2] => { results := [.lit (.bool true)], args := [d1, d2] }
  | _ => none }
def operGetsRow : OpenClaim := { program := "ytamdbfkofdjmlaa", sum := "4fca9c6aed8f08bc20932303ea66a80161d29fe00b0ef6234e2ae9b230ae308f", func := "changeling/changelinglaw17.OperGets", spec := "operGets", unfollowed := true, recurses := true, loops := true, plainKeys := false, apart := false }
def OperGetsSaid : Prop := operGetsRow.holds Try.pinned (OpenSpec.ofChange operGetsSpec)

/-- ITS FALSE NEIGHBOUR: 'it returns false'. Refute it at one input. -/
def operGetsWrong : ChangeSpec := { name := "operGets", fn := fun _ => fun
  | [d1, d2] => { results := [.lit (.bool false)], args := [d1, d2] }
  | _ => none }
def OperGetsWrongFalsely : Prop := operGetsRow.holds Try.pinned (OpenSpec.ofChange operGetsWrong)

/-- 'changelinglaw17.OperRows': WHATEVER THE INPUT: true; the input reads as it did. -/
def operRowsSpec : ChangeSpec := { name := "operRows", fn := fun _ => fun
  | [d1, d2, d3, d4] => { results := [.lit (.bool true)], args := [d1, d2, d3, d4] }
  | _ => none }
def operRowsRow : OpenClaim := { program := "ytamdbfkofdjmlaa", sum := "4fca9c6aed8f08bc20932303ea66a80161d29fe00b0ef6234e2ae9b230ae308f", func := "changeling/changelinglaw17.OperRows", spec := "operRows", inPlace := ["internal/reflectlite.ValueOf", "internal/reflectlite.Swapper", "(internal/reflectlite.Value).Len"], unfollowed := true, recurses := true, loops := true, plainKeys := false, apart := false }
def OperRowsSaid : Prop := operRowsRow.holds Try.pinned (OpenSpec.ofChange operRowsSpec)

/-- ITS FALSE NEIGHBOUR: 'it returns false'. Refute it at one input. -/
def operRowsWrong : ChangeSpec := { name := "operRows", fn := fun _ => fun
  | [d1, d2, d3, d4] => { results := [.lit (.bool false)], args := [d1, d2, d3, d4] }
  | _ => none }
def OperRowsWrongFalsely : Prop := operRowsRow.holds Try.pinned (OpenSpec.ofChange operRowsWrong)

/-- 'changelinglaw17.OperMerged': WHATEVER THE INPUT: true; the input reads as it did. -/
def operMergedSpec : ChangeSpec := { name := "operMerged", fn := fun _ => fun
  | [d1, d2] => { results := [.lit (.bool true)], args := [d1, d2] }
  | _ => none }
def operMergedRow : OpenClaim := { program := "ytamdbfkofdjmlaa", sum := "4fca9c6aed8f08bc20932303ea66a80161d29fe00b0ef6234e2ae9b230ae308f", func := "changeling/changelinglaw17.OperMerged", spec := "operMerged", unfollowed := true, recurses := true, plainKeys := false, apart := false }
def OperMergedSaid : Prop := operMergedRow.holds Try.pinned (OpenSpec.ofChange operMergedSpec)

/-- ITS FALSE NEIGHBOUR: 'it returns false'. Refute it at one input. -/
def operMergedWrong : ChangeSpec := { name := "operMerged", fn := fun _ => fun
  | [d1, d2] => { results := [.lit (.bool false)], args := [d1, d2] }
  | _ => none }
def OperMergedWrongFalsely : Prop := operMergedRow.holds Try.pinned (OpenSpec.ofChange operMergedWrong)

/- THE SECOND FORM. 'bulk': how many values and letters a reading holds, each counted each time it is reached (what is shared counts as often as it is met; a slice's spare places count too). A statement '..UptoSaid' is the law's where the arguments, and the package variables that the reading takes, are together of bulk at most 1048576: NARROWER than '..Said'. Prove '..Said' where nothing that the law and all that it calls make is longer than what came in: it says more and counts as full. Else prove '..UptoSaid'. A law counts once. -/
mutual
def uptoBulk {H : Type} : DataW H → Nat
  | .lit (.string bytes) => bytes.length + 1
  | .lit _ => 1
  | .nil => 1
  | .ptr d => uptoBulk d + 1
  | .slice elems spare => uptoBulkAll elems + uptoBulkAll spare + 1
  | .agg parts => uptoBulkAll parts + 1
  | .iface _ d => uptoBulk d + 1
  | .map entries => uptoBulkEntries entries + 1
  | .held _ => 1
def uptoBulkAll {H : Type} : List (DataW H) → Nat
  | [] => 0
  | d :: r => uptoBulk d + uptoBulkAll r
def uptoBulkEntries {H : Type} : List (Lit × DataW H) → Nat
  | [] => 0
  | x :: r => uptoBulkEntry x + uptoBulkEntries r
def uptoBulkEntry {H : Type} : Lit × DataW H → Nat
  | (.string bytes, d) => bytes.length + uptoBulk d + 1
  | (_, d) => uptoBulk d + 1
 end
def uptoSmall : (H : Type) → List (DataW H) → Bool := fun _ ds => decide (uptoBulkAll ds ≤ 1048576)
def OpenSpec.upto (s : _root_.Go.ChangeSpec) : _root_.Go.OpenSpec := { _root_.Go.OpenSpec.ofChange s with cond := some uptoSmall }

/-- 'changelinglaw17.OperKnown', WHERE WHAT IT READS IS OF BULK AT MOST 1048576: true; the input reads as it did. -/
def operKnownUptoRow : OpenClaim := { program := "ytamdbfkofdjmlaa", sum := "4fca9c6aed8f08bc20932303ea66a80161d29fe00b0ef6234e2ae9b230ae308f", func := "changeling/changelinglaw17.OperKnown", spec := "operKnown", unfollowed := true, recurses := true, plainKeys := false, apart := false, narrowed := true }
def OperKnownUptoSaid : Prop := operKnownUptoRow.holds Try.pinned (OpenSpec.upto operKnownSpec)

/-- 'changelinglaw17.OperGets', WHERE WHAT IT READS IS OF BULK AT MOST 1048576: true; the input reads as it did. -/
def operGetsUptoRow : OpenClaim := { program := "ytamdbfkofdjmlaa", sum := "4fca9c6aed8f08bc20932303ea66a80161d29fe00b0ef6234e2ae9b230ae308f", func := "changeling/changelinglaw17.OperGets", spec := "operGets", unfollowed := true, recurses := true, loops := true, plainKeys := false, apart := false, narrowed := true }
def OperGetsUptoSaid : Prop := operGetsUptoRow.holds Try.pinned (OpenSpec.upto operGetsSpec)

/-- 'changelinglaw17.OperRows', WHERE WHAT IT READS IS OF BULK AT MOST 1048576: true; the input reads as it did. -/
def operRowsUptoRow : OpenClaim := { program := "ytamdbfkofdjmlaa", sum := "4fca9c6aed8f08bc20932303ea66a80161d29fe00b0ef6234e2ae9b230ae308f", func := "changeling/changelinglaw17.OperRows", spec := "operRows", inPlace := ["internal/reflectlite.ValueOf", "internal/reflectlite.Swapper", "(internal/reflectlite.Value).Len"], unfollowed := true, recurses := true, loops := true, plainKeys := false, apart := false, narrowed := true }
def OperRowsUptoSaid : Prop := operRowsUptoRow.holds Try.pinned (OpenSpec.upto operRowsSpec)

/-- 'changelinglaw17.OperMerged', WHERE WHAT IT READS IS OF BULK AT MOST 1048576: true; the input reads as it did. -/
def operMergedUptoRow : OpenClaim := { program := "ytamdbfkofdjmlaa", sum := "4fca9c6aed8f08bc20932303ea66a80161d29fe00b0ef6234e2ae9b230ae308f", func := "changeling/changelinglaw17.OperMerged", spec := "operMerged", unfollowed := true, recurses := true, plainKeys := false, apart := false, narrowed := true }
def OperMergedUptoSaid : Prop := operMergedUptoRow.holds Try.pinned (OpenSpec.upto operMergedSpec)

end Rows
end Go.Proofs.Ytamdbfkofdjmlaa

/-
  NARROWER THAN 'FOR EVERY INPUT', by the rows' own cells (each row's printed sentence says how): KindOf: loops · KindParts: loops · KindSwaps: loops.
  DERIVED. THE GIVEN ROWS OF THIS SEAT. 5 by the template 'for every input the law returns true; each argument reads behind the call as it read before'; 0 by the template 'total and deterministic' (their statements: YtappaeimacgdbaaTotals.lean).
  GIVEN WITH THE SEED: the statements are not yours to turn. If you find one false, say at which input.
  Laid BY PROGRAM, IN A SANDBOX (cutbox-rows.mjs): the forced cells as the released guide's own fill.sh prints them over the translation d1958eda1a7c9b1c… (all of the seat's roots in one cut). By AI agents, Wed Nov 11 2026. No macro, syntax, notation, axiom, sorry.
-/
import Derived.Test.YtappaeimacgdbaaChecked
import GoSem.Claim
import GoSem.ClaimJoined
import GoSem.ClaimMapViews
import Derived.JoinedTies
import Derived.KernelRfl
namespace Go.Proofs.Ytappaeimacgdbaa
/- THE CELL 'sum', in the pinned program and in every row, IS THE sha256 OF THE DUMP (.gsa) THAT YtappaeimacgdbaaProg.lean LOADS. Nothing in Lean hashes anything: it is a label: what it is worth is what the hold of that sum in a sandbox is worth. -/
noncomputable def Try.pinned : Pinned := { name := "ytappaeimacgdbaa", sum := "d1958eda1a7c9b1cc0656411c4a767832915c2fc1be2c2c09466abbdc265dde1", checked := Try.checked }
namespace Rows
def none {H : Type} : Left H := { results := [], args := [] }

/-- 'changelinglaw09.KindKnown': WHATEVER THE INPUT: true; the input reads as it did. -/
def kindKnownSpec : ChangeSpec := { name := "kindKnown", fn := fun _ => fun
  | [] => { results := [.lit (.bool true)], args := [] }
  | _ => none }
def kindKnownRow : OpenClaim := { program := "ytappaeimacgdbaa", sum := "d1958eda1a7c9b1cc0656411c4a767832915c2fc1be2c2c09466abbdc265dde1", func := "changeling/changelinglaw09.KindKnown", spec := "kindKnown", inPlace := ["internal/bytealg.IndexByteString", "internal/bytealg.IndexString"], unfollowed := true, recurses := true, named := ["internal/bytealg.MaxLen"], plainKeys := false, apart := false }
def KindKnownSaid : Prop := kindKnownRow.holds Try.pinned (OpenSpec.ofChange kindKnownSpec)

/-- ITS FALSE NEIGHBOUR: 'it returns false'. Refute it at one input. -/
def kindKnownWrong : ChangeSpec := { name := "kindKnown", fn := fun _ => fun
  | [] => { results := [.lit (.bool false)], args := [] }
  | _ => none }
def KindKnownWrongFalsely : Prop := kindKnownRow.holds Try.pinned (OpenSpec.ofChange kindKnownWrong)

/-- 'changelinglaw09.KindOf': WHATEVER THE INPUT: true; the input reads as it did. -/
def kindOfSpec : ChangeSpec := { name := "kindOf", fn := fun _ => fun
  | [d1, d2, d3] => { results := [.lit (.bool true)], args := [d1, d2, d3] }
  | _ => none }
def kindOfRow : OpenClaim := { program := "ytappaeimacgdbaa", sum := "d1958eda1a7c9b1cc0656411c4a767832915c2fc1be2c2c09466abbdc265dde1", func := "changeling/changelinglaw09.KindOf", spec := "kindOf", inPlace := ["internal/bytealg.IndexByteString", "internal/bytealg.IndexString"], unfollowed := true, recurses := true, named := ["internal/bytealg.MaxLen"], loops := true, plainKeys := false, apart := false }
def KindOfSaid : Prop := kindOfRow.holds Try.pinned (OpenSpec.ofChange kindOfSpec)

/-- ITS FALSE NEIGHBOUR: 'it returns false'. Refute it at one input. -/
def kindOfWrong : ChangeSpec := { name := "kindOf", fn := fun _ => fun
  | [d1, d2, d3] => { results := [.lit (.bool false)], args := [d1, d2, d3] }
  | _ => none }
def KindOfWrongFalsely : Prop := kindOfRow.holds Try.pinned (OpenSpec.ofChange kindOfWrong)

/-- 'changelinglaw09.KindParts': WHATEVER THE INPUT: true; the input reads as it did. -/
def kindPartsSpec : ChangeSpec := { name := "kindParts", fn := fun _ => fun
  | [d1, d2] => { results := [.lit (.bool true)], args := [d1, d2] }
  | _ => none }
def kindPartsRow : OpenClaim := { program := "ytappaeimacgdbaa", sum := "d1958eda1a7c9b1cc0656411c4a767832915c2fc1be2c2c09466abbdc265dde1", func := "changeling/changelinglaw09.KindParts", spec := "kindParts", inPlace := ["internal/bytealg.IndexByteString", "internal/bytealg.IndexString"], unfollowed := true, recurses := true, named := ["internal/bytealg.MaxLen"], loops := true, plainKeys := false, apart := false }
def KindPartsSaid : Prop := kindPartsRow.holds Try.pinned (OpenSpec.ofChange kindPartsSpec)

/-- ITS FALSE NEIGHBOUR: 'it returns false'. Refute it at one input. -/
def kindPartsWrong : ChangeSpec := { name := "kindParts", fn := fun _ => fun
  | [d1, d2] => { results := [.lit (.bool false)], args := [d1, d2] }
  | _ => none }
def KindPartsWrongFalsely : Prop := kindPartsRow.holds Try.pinned (OpenSpec.ofChange kindPartsWrong)

/-- 'changelinglaw09.KindSwaps': WHATEVER THE INPUT: true; the input reads as it did. -/
def kindSwapsSpec : ChangeSpec := { name := "kindSwaps", fn := fun _ => fun
  | [d1, d2, d3, d4] => { results := [.lit (.bool true)], args := [d1, d2, d3, d4] }
  | _ => none }
def kindSwapsRow : OpenClaim := { program := "ytappaeimacgdbaa", sum := "d1958eda1a7c9b1cc0656411c4a767832915c2fc1be2c2c09466abbdc265dde1", func := "changeling/changelinglaw09.KindSwaps", spec := "kindSwaps", inPlace := ["internal/bytealg.IndexByteString", "internal/bytealg.IndexString"], unfollowed := true, recurses := true, named := ["internal/bytealg.MaxLen"], loops := true, plainKeys := false, apart := false }
def KindSwapsSaid : Prop := kindSwapsRow.holds Try.pinned (OpenSpec.ofChange kindSwapsSpec)

/-- ITS FALSE NEIGHBOUR: 'it returns false'. Refute it at one input. -/
def kindSwapsWrong : ChangeSpec := { name := "kindSwaps", fn := fun _ => fun
  | [d1, d2, d3, d4] => { results := [.lit (.bool false)], args := [d1, d2, d3, d4] }
  | _ => none }
def KindSwapsWrongFalsely : Prop := kindSwapsRow.holds Try.pinned (OpenSpec.ofChange kindSwapsWrong)

/-- 'changelinglaw09.KindSigns': WHATEVER THE INPUT: true; the input reads as it did. -/
def kindSignsSpec : ChangeSpec := { name := "kindSigns", fn := fun _ => fun
  | [d1, d2, d3] => { results := [.lit (.bool true)], args := [d1, d2, d3] }
  | _ => none }
def kindSignsRow : OpenClaim := { program := "ytappaeimacgdbaa", sum := "d1958eda1a7c9b1cc0656411c4a767832915c2fc1be2c2c09466abbdc265dde1", func := "changeling/changelinglaw09.KindSigns", spec := "kindSigns", inPlace := ["internal/bytealg.IndexByteString", "internal/bytealg.IndexString"], unfollowed := true, recurses := true, named := ["internal/bytealg.MaxLen"], plainKeys := false, apart := false }
def KindSignsSaid : Prop := kindSignsRow.holds Try.pinned (OpenSpec.ofChange kindSignsSpec)

/-- ITS FALSE NEIGHBOUR: 'it returns false'. Refute it at one input. -/
def kindSignsWrong : ChangeSpec := { name := "kindSigns", fn := fun _ => fun
  | [d1, d2, d3] => { results := [.lit (.bool false)], args := [d1, d2, d3] }
  | _ => none }
def KindSignsWrongFalsely : Prop := kindSignsRow.holds Try.pinned (OpenSpec.ofChange kindSignsWrong)

/- THE SECOND FORM. 'bulk': how many values and letters a reading holds, each counted each time it is reached (what is shared counts as often as it is met; a slice's spare places count too). A statement '..UptoSaid' is the law's where the arguments, and the package variables that the reading takes, are together of bulk at most 1048576: NARROWER than '..Said'. Prove '..Said' where nothing that the law and all that it calls make is longer than what came in: it says more and counts as full. Else prove '..UptoSaid'. A law counts once. -/
mutual
def uptoBulk {H : Type} : DataW H → Nat
  | .lit (.string bytes) => bytes.length + 1
  | .lit _ => 1
  | .nil => 1
  | .ptr d => uptoBulk d + 1
  | .slice elems spare => uptoBulkAll elems + uptoBulkAll spare + 1
  | .agg parts => uptoBulkAll parts + 1
  | .iface _ d => uptoBulk d + 1
  | .map entries => uptoBulkEntries entries + 1
  | .held _ => 1
def uptoBulkAll {H : Type} : List (DataW H) → Nat
  | [] => 0
  | d :: r => uptoBulk d + uptoBulkAll r
def uptoBulkEntries {H : Type} : List (Lit × DataW H) → Nat
  | [] => 0
  | x :: r => uptoBulkEntry x + uptoBulkEntries r
def uptoBulkEntry {H : Type} : Lit × DataW H → Nat
  | (.string bytes, d) => bytes.length + uptoBulk d + 1
  | (_, d) => uptoBulk d + 1
 end
def uptoSmall : (H : Type) → List (DataW H) → Bool := fun _ ds => decide (uptoBulkAll ds ≤ 1048576)
def OpenSpec.upto (s : _root_.Go.ChangeSpec) : _root_.Go.OpenSpec := { _root_.Go.OpenSpec.ofChange s with cond := some uptoSmall }

/-- 'changelinglaw09.KindKnown', WHERE WHAT IT READS IS OF BULK AT MOST 1048576: true; the input reads as it did. -/
def kindKnownUptoRow : OpenClaim := { program := "ytappaeimacgdbaa", sum := "d1958eda1a7c9b1cc0656411c4a767832915c2fc1be2c2c09466abbdc265dde1", func := "changeling/changelinglaw09.KindKnown", spec := "kindKnown", inPlace := ["internal/bytealg.IndexByteString", "internal/bytealg.IndexString"], unfollowed := true, recurses := true, named := ["internal/bytealg.MaxLen"], plainKeys := false, apart := false, narrowed := true }
def KindKnownUptoSaid : Prop := kindKnownUptoRow.holds Try.pinned (OpenSpec.upto kindKnownSpec)

/-- 'changelinglaw09.KindOf', WHERE WHAT IT READS IS OF BULK AT MOST 1048576: true; the input reads as it did. -/
def kindOfUptoRow : OpenClaim := { program := "ytappaeimacgdbaa", sum := "d1958eda1a7c9b1cc0656411c4a767832915c2fc1be2c2c09466abbdc265dde1", func := "changeling/changelinglaw09.KindOf", spec := "kindOf", inPlace := ["internal/bytealg.IndexByteString", "internal/bytealg.IndexString"], unfollowed := true, recurses := true, named := ["internal/bytealg.MaxLen"], loops := true, plainKeys := false, apart := false, narrowed := true }
def KindOfUptoSaid : Prop := kindOfUptoRow.holds Try.pinned (OpenSpec.upto kindOfSpec)

/-- 'changelinglaw09.KindParts', WHERE WHAT IT READS IS OF BULK AT MOST 1048576: true; the input reads as it did. -/
def kindPartsUptoRow : OpenClaim := { program := "ytappaeimacgdbaa", sum := "d1958eda1a7c9b1cc0656411c4a767832915c2fc1be2c2c09466abbdc265dde1", func := "changeling/changelinglaw09.KindParts", spec := "kindParts", inPlace := ["internal/bytealg.IndexByteString", "internal/bytealg.IndexString"], unfollowed := true, recurses := true, named := ["internal/bytealg.MaxLen"], loops := true, plainKeys := false, apart := false, narrowed := true }
def KindPartsUptoSaid : Prop := kindPartsUptoRow.holds Try.pinned (OpenSpec.upto kindPartsSpec)

/-- 'changelinglaw09.KindSwaps', WHERE WHAT IT READS IS OF BULK AT MOST 1048576: true; the input reads as it did. -/
def kindSwapsUptoRow : OpenClaim := { program := "ytappaeimacgdbaa", sum := "d1958eda1a7c9b1cc0656411c4a767832915c2fc1be2c2c09466abbdc265dde1", func := "changeling/changelinglaw09.KindSwaps", spec := "kindSwaps", inPlace := ["internal/bytealg.IndexByteString", "internal/bytealg.IndexString"], unfollowed := true, recurses := true, named := ["internal/bytealg.MaxLen"], loops := true, plainKeys := false, apart := false, narrowed := true }
def KindSwapsUptoSaid : Prop := kindSwapsUptoRow.holds Try.pinned (OpenSpec.upto kindSwapsSpec)

/-- 'changelinglaw09.KindSigns', WHERE WHAT IT READS IS OF BULK AT MOST 1048576: true; the input reads as it did. -/
def kindSignsUptoRow : OpenClaim := { program := "ytappaeimacgdbaa", sum := "d1958eda1a7c9b1cc0656411c4a767832915c2fc1be2c2c09466abbdc265dde1", func := "changeling/changelinglaw09.KindSigns", spec := "kindSigns", inPlace := ["internal/bytealg.IndexByteString", "internal/bytealg.IndexString"], unfollowed := true, recurses := true, named := ["internal/bytealg.MaxLen"], plainKeys := false, apart := false, narrowed := true }
def KindSignsUptoSaid : Prop := kindSignsUptoRow.holds Try.pinned (OpenSpec.upto kindSignsSpec)

end Rows
end Go.Proofs.Ytappaeimacgdbaa

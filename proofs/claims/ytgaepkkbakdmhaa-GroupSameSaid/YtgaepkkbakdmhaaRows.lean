/-
  No cell of these rows narrows 'for every input' (looked for: loops, veiled, ifaces, maps, wideKeys, modest, calm, conditions, laid).
  DERIVED. THE GIVEN ROWS OF THIS SEAT. 5 by the template 'for every input the law returns true; each argument reads behind the call as it read before'; 0 by the template 'total and deterministic' (their statements: YtgaepkkbakdmhaaTotals.lean).
  GIVEN WITH THE SEED: the statements are not yours to turn. If you find one false, say at which input.
  Laid BY PROGRAM, IN A SANDBOX (cutbox-rows.mjs): the forced cells as the released guide's own fill.sh prints them over the translation 73a682c0917b04fd… (all of the seat's roots in one cut). By AI agents, Wed Nov 11 2026. No macro, syntax, notation, axiom, sorry.
-/
import Derived.Test.YtgaepkkbakdmhaaChecked
import GoSem.Claim
import GoSem.ClaimJoined
import GoSem.ClaimMapViews
import Derived.JoinedTies
import Derived.KernelRfl
namespace Go.Proofs.Ytgaepkkbakdmhaa
/- THE CELL 'sum', in the pinned program and in every row, IS THE sha256 OF THE DUMP (.gsa) THAT YtgaepkkbakdmhaaProg.lean LOADS. Nothing in Lean hashes anything: it is a label: what it is worth is what the hold of that sum in a sandbox is worth. -/
noncomputable def Try.pinned : Pinned := { name := "ytgaepkkbakdmhaa", sum := "73a682c0917b04fdcc651b4c84f7f6f5e66631392507f40fee23b4e9052f52be", checked := Try.checked }
namespace Rows
def none {H : Type} : Left H := { results := [], args := [] }

/-- 'changelinglaw15.GroupKnown': WHATEVER THE INPUT: true; the input reads as it did. -/
def groupKnownSpec : ChangeSpec := { name := "groupKnown", fn := fun _ => fun
  | [] => { results := [.lit (.bool true)], args := [] }
  | _ => none }
def groupKnownRow : OpenClaim := { program := "ytgaepkkbakdmhaa", sum := "73a682c0917b04fdcc651b4c84f7f6f5e66631392507f40fee23b4e9052f52be", func := "changeling/changelinglaw15.GroupKnown", spec := "groupKnown", apart := false }
def GroupKnownSaid : Prop := groupKnownRow.holds Try.pinned (OpenSpec.ofChange groupKnownSpec)

/-- ITS FALSE NEIGHBOUR: 'it returns false'. Refute it at one input. -/
def groupKnownWrong : ChangeSpec := { name := "groupKnown", fn := fun _ => fun
  | [] => { results := [.lit (.bool false)], args := [] }
  | _ => none }
def GroupKnownWrongFalsely : Prop := groupKnownRow.holds Try.pinned (OpenSpec.ofChange groupKnownWrong)

/-- 'changelinglaw15.GroupKeys': WHATEVER THE INPUT: true; the input reads as it did. -/
def groupKeysSpec : ChangeSpec := { name := "groupKeys", fn := fun _ => fun
  | [d1, d2, d3] => { results := [.lit (.bool true)], args := [d1, d2, d3] }
  | _ => none }
def groupKeysRow : OpenClaim := { program := "ytgaepkkbakdmhaa", sum := "73a682c0917b04fdcc651b4c84f7f6f5e66631392507f40fee23b4e9052f52be", func := "changeling/changelinglaw15.GroupKeys", spec := "groupKeys", apart := false }
def GroupKeysSaid : Prop := groupKeysRow.holds Try.pinned (OpenSpec.ofChange groupKeysSpec)

/-- ITS FALSE NEIGHBOUR: 'it returns false'. Refute it at one input. -/
def groupKeysWrong : ChangeSpec := { name := "groupKeys", fn := fun _ => fun
  | [d1, d2, d3] => { results := [.lit (.bool false)], args := [d1, d2, d3] }
  | _ => none }
def GroupKeysWrongFalsely : Prop := groupKeysRow.holds Try.pinned (OpenSpec.ofChange groupKeysWrong)

/-- 'changelinglaw15.GroupShares': WHATEVER THE INPUT: true; the input reads as it did. -/
def groupSharesSpec : ChangeSpec := { name := "groupShares", fn := fun _ => fun
  | [d] => { results := [.lit (.bool true)], args := [d] }
  | _ => none }
def groupSharesRow : OpenClaim := { program := "ytgaepkkbakdmhaa", sum := "73a682c0917b04fdcc651b4c84f7f6f5e66631392507f40fee23b4e9052f52be", func := "changeling/changelinglaw15.GroupShares", spec := "groupShares", apart := false }
def GroupSharesSaid : Prop := groupSharesRow.holds Try.pinned (OpenSpec.ofChange groupSharesSpec)

/-- ITS FALSE NEIGHBOUR: 'it returns false'. Refute it at one input. -/
def groupSharesWrong : ChangeSpec := { name := "groupShares", fn := fun _ => fun
  | [d] => { results := [.lit (.bool false)], args := [d] }
  | _ => none }
def GroupSharesWrongFalsely : Prop := groupSharesRow.holds Try.pinned (OpenSpec.ofChange groupSharesWrong)

/-- 'changelinglaw15.GroupSame': WHATEVER THE INPUT: true; the input reads as it did. -/
def groupSameSpec : ChangeSpec := { name := "groupSame", fn := fun _ => fun
  | [d1, d2, d3] => { results := [.lit (.bool true)], args := [d1, d2, d3] }
  | _ => none }
def groupSameRow : OpenClaim := { program := "ytgaepkkbakdmhaa", sum := "73a682c0917b04fdcc651b4c84f7f6f5e66631392507f40fee23b4e9052f52be", func := "changeling/changelinglaw15.GroupSame", spec := "groupSame", apart := false }
def GroupSameSaid : Prop := groupSameRow.holds Try.pinned (OpenSpec.ofChange groupSameSpec)

/-- ITS FALSE NEIGHBOUR: 'it returns false'. Refute it at one input. -/
def groupSameWrong : ChangeSpec := { name := "groupSame", fn := fun _ => fun
  | [d1, d2, d3] => { results := [.lit (.bool false)], args := [d1, d2, d3] }
  | _ => none }
def GroupSameWrongFalsely : Prop := groupSameRow.holds Try.pinned (OpenSpec.ofChange groupSameWrong)

/-- 'changelinglaw15.GroupParts': WHATEVER THE INPUT: true; the input reads as it did. -/
def groupPartsSpec : ChangeSpec := { name := "groupParts", fn := fun _ => fun
  | [d1, d2] => { results := [.lit (.bool true)], args := [d1, d2] }
  | _ => none }
def groupPartsRow : OpenClaim := { program := "ytgaepkkbakdmhaa", sum := "73a682c0917b04fdcc651b4c84f7f6f5e66631392507f40fee23b4e9052f52be", func := "changeling/changelinglaw15.GroupParts", spec := "groupParts", apart := false }
def GroupPartsSaid : Prop := groupPartsRow.holds Try.pinned (OpenSpec.ofChange groupPartsSpec)

/-- ITS FALSE NEIGHBOUR: 'it returns false'. Refute it at one input. -/
def groupPartsWrong : ChangeSpec := { name := "groupParts", fn := fun _ => fun
  | [d1, d2] => { results := [.lit (.bool false)], args := [d1, d2] }
  | _ => none }
def GroupPartsWrongFalsely : Prop := groupPartsRow.holds Try.pinned (OpenSpec.ofChange groupPartsWrong)

/- THE SECOND FORM. 'bulk': how many values and letters a reading holds, each counted each time it is reached (what is shared counts as often as it is met; a slice's spare places count too). A statement '..UptoSaid' is the law's where the arguments, and the package variables that the reading takes, are together of bulk at most 1048576: NARROWER than '..Said'. Prove '..Said' where nothing that the law and all that it calls make is longer than what came in: it says more and counts as full. Else prove '..UptoSaid'. A law counts once. -/
mutual
def uptoBulk {H : Type} : DataW H → Nat
  | .lit (.string bytes) => bytes.length + 1
  | .lit _ => 1
  | .nil => 1
  | .ptr d => uptoBulk d + 1
  | .slice elems spare => uptoBulkAll elems + uptoBulkAll spare + 1
  | .agg parts => uptoBulkAll parts + 1
  | .iface _ d => uptoBulk d + 1
  | .map entries => uptoBulkEntries entries + 1
  | .held _ => 1
def uptoBulkAll {H : Type} : List (DataW H) → Nat
  | [] => 0
  | d :: r => uptoBulk d + uptoBulkAll r
def uptoBulkEntries {H : Type} : List (Lit × DataW H) → Nat
  | [] => 0
  | x :: r => uptoBulkEntry x + uptoBulkEntries r
def uptoBulkEntry {H : Type} : Lit × DataW H → Nat
  | (.string bytes, d) => bytes.length + uptoBulk d + 1
  | (_, d) => uptoBulk d + 1
 end
def uptoSmall : (H : Type) → List (DataW H) → Bool := fun _ ds => decide (uptoBulkAll ds ≤ 1048576)
def OpenSpec.upto (s : _root_.Go.ChangeSpec) : _root_.Go.OpenSpec := { _root_.Go.OpenSpec.ofChange s with cond := some uptoSmall }

/-- 'changelinglaw15.GroupKnown', WHERE WHAT IT READS IS OF BULK AT MOST 1048576: true; the input reads as it did. -/
def groupKnownUptoRow : OpenClaim := { program := "ytgaepkkbakdmhaa", sum := "73a682c0917b04fdcc651b4c84f7f6f5e66631392507f40fee23b4e9052f52be", func := "changeling/changelinglaw15.GroupKnown", spec := "groupKnown", apart := false, narrowed := true }
def GroupKnownUptoSaid : Prop := groupKnownUptoRow.holds Try.pinned (OpenSpec.upto groupKnownSpec)

/-- 'changelinglaw15.GroupKeys', WHERE WHAT IT READS IS OF BULK AT MOST 1048576: true; the input reads as it did. -/
def groupKeysUptoRow : OpenClaim := { program := "ytgaepkkbakdmhaa", sum := "73a682c0917b04fdcc651b4c84f7f6f5e66631392507f40fee23b4e9052f52be", func := "changeling/changelinglaw15.GroupKeys", spec := "groupKeys", apart := false, narrowed := true }
def GroupKeysUptoSaid : Prop := groupKeysUptoRow.holds Try.pinned (OpenSpec.upto groupKeysSpec)

/-- 'changelinglaw15.GroupShares', WHERE WHAT IT READS IS OF BULK AT MOST 1048576: true; the input reads as it did. -/
def groupSharesUptoRow : OpenClaim := { program := "ytgaepkkbakdmhaa", sum := "73a682c0917b04fdcc651b4c84f7f6f5e66631392507f40fee23b4e9052f52be", func := "changeling/changelinglaw15.GroupShares", spec := "groupShares", apart := false, narrowed := true }
def GroupSharesUptoSaid : Prop := groupSharesUptoRow.holds Try.pinned (OpenSpec.upto groupSharesSpec)

/-- 'changelinglaw15.GroupSame', WHERE WHAT IT READS IS OF BULK AT MOST 1048576: true; the input reads as it did. -/
def groupSameUptoRow : OpenClaim := { program := "ytgaepkkbakdmhaa", sum := "73a682c0917b04fdcc651b4c84f7f6f5e66631392507f40fee23b4e9052f52be", func := "changeling/changelinglaw15.GroupSame", spec := "groupSame", apart := false, narrowed := true }
def GroupSameUptoSaid : Prop := groupSameUptoRow.holds Try.pinned (OpenSpec.upto groupSameSpec)

/-- 'changelinglaw15.GroupParts', WHERE WHAT IT READS IS OF BULK AT MOST 1048576: true; the input reads as it did. -/
def groupPartsUptoRow : OpenClaim := { program := "ytgaepkkbakdmhaa", sum := "73a682c0917b04fdcc651b4c84f7f6f5e66631392507f40fee23b4e9052f52be", func := "changeling/changelinglaw15.GroupParts", spec := "groupParts", apart := false, narrowed := true }
def GroupPartsUptoSaid : Prop := groupPartsUptoRow.holds Try.pinned (OpenSpec.upto groupPartsSpec)

end Rows
end Go.Proofs.Ytgaepkkbakdmhaa

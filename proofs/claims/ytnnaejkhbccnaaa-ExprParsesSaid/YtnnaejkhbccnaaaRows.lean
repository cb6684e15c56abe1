/-
  NARROWER THAN 'FOR EVERY INPUT', by the rows' own cells (each row's printed sentence says how): ExprMay: loops.
  DERIVED. THE GIVEN ROWS OF THIS SEAT. 6 by the template 'for every input the law returns true; each argument reads behind the call as it read before'; 0 by the template 'total and deterministic' (their statements: YtnnaejkhbccnaaaTotals.lean).
  GIVEN WITH THE SEED: the statements are not yours to turn. If you find one false, say at which input.
  Laid BY PROGRAM, IN A SANDBOX (cutbox-rows.mjs): the forced cells as the released guide's own fill.sh prints them over the translation 59d21bd24ec5132c… (all of the seat's roots in one cut). By AI agents, Wed Nov 11 2026. No macro, syntax, notation, axiom, sorry.
-/
import Derived.Test.YtnnaejkhbccnaaaChecked
import GoSem.Claim
import GoSem.ClaimJoined
import GoSem.ClaimMapViews
import Derived.JoinedTies
import Derived.KernelRfl
namespace Go.Proofs.Ytnnaejkhbccnaaa
/- THE CELL 'sum', in the pinned program and in every row, IS THE sha256 OF THE DUMP (.gsa) THAT YtnnaejkhbccnaaaProg.lean LOADS. Nothing in Lean hashes anything: it is a label: what it is worth is what the hold of that sum in a sandbox is worth. -/
noncomputable def Try.pinned : Pinned := { name := "ytnnaejkhbccnaaa", sum := "59d21bd24ec5132c64d8ddd988787ab4a7f854cfa9102c546f771d12372ae4b8", checked := Try.checked }
namespace Rows
def none {H : Type} : Left H := { results := [], args := [] }

/-- 'changelinglaw08.ExprKnown': WHATEVER THE INPUT: true; the input reads as it did. -/
def exprKnownSpec : ChangeSpec := { name := "exprKnown", fn := fun _ => fun
  | [] => { results := [.lit (.bool true)], args := [] }
  | _ => none }
def exprKnownRow : OpenClaim := { program := "ytnnaejkhbccnaaa", sum := "59d21bd24ec5132c64d8ddd988787ab4a7f854cfa9102c546f771d12372ae4b8", func := "changeling/changelinglaw08.ExprKnown", spec := "exprKnown", inPlace := ["internal/bytealg.IndexByteString", "internal/bytealg.IndexString"], unfollowed := true, recurses := true, named := ["internal/bytealg.MaxLen"], plainKeys := false, apart := false }
def ExprKnownSaid : Prop := exprKnownRow.holds Try.pinned (OpenSpec.ofChange exprKnownSpec)

/-- ITS FALSE NEIGHBOUR: 'it returns false'. Refute it at one input. -/
def exprKnownWrong : ChangeSpec := { name := "exprKnown", fn := fun _ => fun
  | [] => { results := [.lit (.bool false)], args := [] }
  | _ => none }
def ExprKnownWrongFalsely : Prop := exprKnownRow.holds Try.pinned (OpenSpec.ofChange exprKnownWrong)

/-- 'changelinglaw08.ExprParses': WHATEVER THE INPUT: true; the input reads as it did. -/
def exprParsesSpec : ChangeSpec := { name := "exprParses", fn := fun _ => fun
  | [d] => { results := [.lit (.bool true)], args := [d] }
  | _ => none }
def exprParsesRow : OpenClaim := { program := "ytnnaejkhbccnaaa", sum := "59d21bd24ec5132c64d8ddd988787ab4a7f854cfa9102c546f771d12372ae4b8", func := "changeling/changelinglaw08.ExprParses", spec := "exprParses", inPlace := ["internal/bytealg.IndexByteString", "internal/bytealg.IndexString"], unfollowed := true, recurses := true, named := ["internal/bytealg.MaxLen"], plainKeys := false, apart := false }
def ExprParsesSaid : Prop := exprParsesRow.holds Try.pinned (OpenSpec.ofChange exprParsesSpec)

/-- ITS FALSE NEIGHBOUR: 'it returns false'. Refute it at one input. -/
def exprParsesWrong : ChangeSpec := { name := "exprParses", fn := fun _ => fun
  | [d] => { results := [.lit (.bool false)], args := [d] }
  | _ => none }
def ExprParsesWrongFalsely : Prop := exprParsesRow.holds Try.pinned (OpenSpec.ofChange exprParsesWrong)

/-- 'changelinglaw08.ExprMay': WHATEVER THE INPUT: true; the input reads as it did. -/
def exprMaySpec : ChangeSpec := { name := "exprMay", fn := fun _ => fun
  | [d1, d2] => { results := [.lit (.bool true)], args := [d1, d2] }
  | _ => none }
def exprMayRow : OpenClaim := { program := "ytnnaejkhbccnaaa", sum := "59d21bd24ec5132c64d8ddd988787ab4a7f854cfa9102c546f771d12372ae4b8", func := "changeling/changelinglaw08.ExprMay", spec := "exprMay", inPlace := ["internal/bytealg.IndexByteString", "internal/bytealg.IndexString"], unfollowed := true, recurses := true, named := ["internal/bytealg.MaxLen"], loops := true, plainKeys := false, apart := false }
def ExprMaySaid : Prop := exprMayRow.holds Try.pinned (OpenSpec.ofChange exprMaySpec)

/-- ITS FALSE NEIGHBOUR: 'it returns false'. Refute it at one input. -/
def exprMayWrong : ChangeSpec := { name := "exprMay", fn := fun _ => fun
  | [d1, d2] => { results := [.lit (.bool false)], args := [d1, d2] }
  | _ => none }
def ExprMayWrongFalsely : Prop := exprMayRow.holds Try.pinned (OpenSpec.ofChange exprMayWrong)

/-- 'changelinglaw08.ExprGood': WHATEVER THE INPUT: true; the input reads as it did. -/
def exprGoodSpec : ChangeSpec := { name := "exprGood", fn := fun _ => fun
  | [d] => { results := [.lit (.bool true)], args := [d] }
  | _ => none }
def exprGoodRow : OpenClaim := { program := "ytnnaejkhbccnaaa", sum := "59d21bd24ec5132c64d8ddd988787ab4a7f854cfa9102c546f771d12372ae4b8", func := "changeling/changelinglaw08.ExprGood", spec := "exprGood", inPlace := ["internal/bytealg.IndexByteString", "internal/bytealg.IndexString"], unfollowed := true, recurses := true, named := ["internal/bytealg.MaxLen"], plainKeys := false, apart := false }
def ExprGoodSaid : Prop := exprGoodRow.holds Try.pinned (OpenSpec.ofChange exprGoodSpec)

/-- ITS FALSE NEIGHBOUR: 'it returns false'. Refute it at one input. -/
def exprGoodWrong : ChangeSpec := { name := "exprGood", fn := fun _ => fun
  | [d] => { results := [.lit (.bool false)], args := [d] }
  | _ => none }
def ExprGoodWrongFalsely : Prop := exprGoodRow.holds Try.pinned (OpenSpec.ofChange exprGoodWrong)

/-- 'changelinglaw08.ExprParens': WHATEVER THE INPUT: true; the input reads as it did. -/
def exprParensSpec : ChangeSpec := { name := "exprParens", fn := fun _ => fun
  | [d1, d2] => { results := [.lit (.bool true)], args := [d1, d2] }
  | _ => none }
def exprParensRow : OpenClaim := { program := "ytnnaejkhbccnaaa", sum := "59d21bd24ec5132c64d8ddd988787ab4a7f854cfa9102c546f771d12372ae4b8", func := "changeling/changelinglaw08.ExprParens", spec := "exprParens", inPlace := ["internal/bytealg.IndexByteString", "internal/bytealg.IndexString", "internal/abi.NoEscape", "internal/bytealg.MakeNoZero"], unfollowed := true, recurses := true, named := ["internal/bytealg.MaxLen"], plainKeys := false, apart := false }
def ExprParensSaid : Prop := exprParensRow.holds Try.pinned (OpenSpec.ofChange exprParensSpec)

/-- ITS FALSE NEIGHBOUR: 'it returns false'. Refute it at one input. -/
def exprParensWrong : ChangeSpec := { name := "exprParens", fn := fun _ => fun
  | [d1, d2] => { results := [.lit (.bool false)], args := [d1, d2] }
  | _ => none }
def ExprParensWrongFalsely : Prop := exprParensRow.holds Try.pinned (OpenSpec.ofChange exprParensWrong)

/-- 'changelinglaw08.ExprBlanks': WHATEVER THE INPUT: true; the input reads as it did. -/
def exprBlanksSpec : ChangeSpec := { name := "exprBlanks", fn := fun _ => fun
  | [d] => { results := [.lit (.bool true)], args := [d] }
  | _ => none }
def exprBlanksRow : OpenClaim := { program := "ytnnaejkhbccnaaa", sum := "59d21bd24ec5132c64d8ddd988787ab4a7f854cfa9102c546f771d12372ae4b8", func := "changeling/changelinglaw08.ExprBlanks", spec := "exprBlanks", inPlace := ["internal/bytealg.IndexByteString", "internal/bytealg.IndexString"], unfollowed := true, recurses := true, named := ["internal/bytealg.MaxLen"], plainKeys := false, apart := false }
def ExprBlanksSaid : Prop := exprBlanksRow.holds Try.pinned (OpenSpec.ofChange exprBlanksSpec)

/-- ITS FALSE NEIGHBOUR: 'it returns false'. Refute it at one input. -/
def exprBlanksWrong : ChangeSpec := { name := "exprBlanks", fn := fun _ => fun
  | [d] => { results := [.lit (.bool false)], args := [d] }
  | _ => none }
def ExprBlanksWrongFalsely : Prop := exprBlanksRow.holds Try.pinned (OpenSpec.ofChange exprBlanksWrong)

/- THE SECOND FORM. 'bulk': how many values and letters a reading holds, each counted each time it is reached (what is shared counts as often as it is met; a slice's spare places count too). A statement '..UptoSaid' is the law's where the arguments, and the package variables that the reading takes, are together of bulk at most 1048576: NARROWER than '..Said'. Prove '..Said' where nothing that the law and all that it calls make is longer than what came in: it says more and counts as full. Else prove '..UptoSaid'. A law counts once. -/
mutual
def uptoBulk {H : Type} : DataW H → Nat
  | .lit (.string bytes) => bytes.length + 1
  | .lit _ => 1
  | .nil => 1
  | .ptr d => uptoBulk d + 1
  | .slice elems spare => uptoBulkAll elems + uptoBulkAll spare + 1
  | .agg parts => uptoBulkAll parts + 1
  | .iface _ d => uptoBulk d + 1
  | .map entries => uptoBulkEntries entries + 1
  | .held _ => 1
def uptoBulkAll {H : Type} : List (DataW H) → Nat
  | [] => 0
  | d :: r => uptoBulk d + uptoBulkAll r
def uptoBulkEntries {H : Type} : List (Lit × DataW H) → Nat
  | [] => 0
  | x :: r => uptoBulkEntry x + uptoBulkEntries r
def uptoBulkEntry {H : Type} : Lit × DataW H → Nat
  | (.string bytes, d) => bytes.length + uptoBulk d + 1
  | (_, d) => uptoBulk d + 1
 end
def uptoSmall : (H : Type) → List (DataW H) → Bool := fun _ ds => decide (uptoBulkAll ds ≤ 1048576)
def OpenSpec.upto (s : _root_.Go.ChangeSpec) : _root_.Go.OpenSpec := { _root_.Go.OpenSpec.ofChange s with cond := some uptoSmall }

/-- 'changelinglaw08.ExprKnown', WHERE WHAT IT READS IS OF BULK AT MOST 1048576: true; the input reads as it did. -/
def exprKnownUptoRow : OpenClaim := { program := "ytnnaejkhbccnaaa", sum := "59d21bd24ec5132c64d8ddd988787ab4a7f854cfa9102c546f771d12372ae4b8", func := "changeling/changelinglaw08.ExprKnown", spec := "exprKnown", inPlace := ["internal/bytealg.IndexByteString", "internal/bytealg.IndexString"], unfollowed := true, recurses := true, named := ["internal/bytealg.MaxLen"], plainKeys := false, apart := false, narrowed := true }
def ExprKnownUptoSaid : Prop := exprKnownUptoRow.holds Try.pinned (OpenSpec.upto exprKnownSpec)

/-- 'changelinglaw08.ExprParses', WHERE WHAT IT READS IS OF BULK AT MOST 1048576: true; the input reads as it did. -/
def exprParsesUptoRow : OpenClaim := { program := "ytnnaejkhbccnaaa", sum := "59d21bd24ec5132c64d8ddd988787ab4a7f854cfa9102c546f771d12372ae4b8", func := "changeling/changelinglaw08.ExprParses", spec := "exprParses", inPlace := ["internal/bytealg.IndexByteString", "internal/bytealg.IndexString"], unfollowed := true, recurses := true, named := ["internal/bytealg.MaxLen"], plainKeys := false, apart := false, narrowed := true }
def ExprParsesUptoSaid : Prop := exprParsesUptoRow.holds Try.pinned (OpenSpec.upto exprParsesSpec)

/-- 'changelinglaw08.ExprMay', WHERE WHAT IT READS IS OF BULK AT MOST 1048576: true; the input reads as it did. -/
def exprMayUptoRow : OpenClaim := { program := "ytnnaejkhbccnaaa", sum := "59d21bd24ec5132c64d8ddd988787ab4a7f854cfa9102c546f771d12372ae4b8", func := "changeling/changelinglaw08.ExprMay", spec := "exprMay", inPlace := ["internal/bytealg.IndexByteString", "internal/bytealg.IndexString"], unfollowed := true, recurses := true, named := ["internal/bytealg.MaxLen"], loops := true, plainKeys := false, apart := false, narrowed := true }
def ExprMayUptoSaid : Prop := exprMayUptoRow.holds Try.pinned (OpenSpec.upto exprMaySpec)

/-- 'changelinglaw08.ExprGood', WHERE WHAT IT READS IS OF BULK AT MOST 1048576: true; the input reads as it did. -/
def exprGoodUptoRow : OpenClaim := { program := "ytnnaejkhbccnaaa", sum := "59d21bd24ec5132c64d8ddd988787ab4a7f854cfa9102c546f771d12372ae4b8", func := "changeling/changelinglaw08.ExprGood", spec := "exprGood", inPlace := ["internal/bytealg.IndexByteString", "internal/bytealg.IndexString"], unfollowed := true, recurses := true, named := ["internal/bytealg.MaxLen"], plainKeys := false, apart := false, narrowed := true }
def ExprGoodUptoSaid : Prop := exprGoodUptoRow.holds Try.pinned (OpenSpec.upto exprGoodSpec)

/-- 'changelinglaw08.ExprParens', WHERE WHAT IT READS IS OF BULK AT MOST 1048576: true; the input reads as it did. -/
def exprParensUptoRow : OpenClaim := { program := "ytnnaejkhbccnaaa", sum := "59d21bd24ec5132c64d8ddd988787ab4a7f854cfa9102c546f771d12372ae4b8", func := "changeling/changelinglaw08.ExprParens", spec := "exprParens", inPlace := ["internal/bytealg.IndexByteString", "internal/bytealg.IndexString", "internal/abi.NoEscape", "internal/bytealg.MakeNoZero"], unfollowed := true, recurses := true, named := ["internal/bytealg.MaxLen"], plainKeys := false, apart := false, narrowed := true }
def ExprParensUptoSaid : Prop := exprParensUptoRow.holds Try.pinned (OpenSpec.upto exprParensSpec)

/-- 'changelinglaw08.ExprBlanks', WHERE WHAT IT READS IS OF BULK AT MOST 1048576: true; the input reads as it did. -/
def exprBlanksUptoRow : OpenClaim := { program := "ytnnaejkhbccnaaa", sum := "59d21bd24ec5132c64d8ddd988787ab4a7f854cfa9102c546f771d12372ae4b8", func := "changeling/changelinglaw08.ExprBlanks", spec := "exprBlanks", inPlace := ["internal/bytealg.IndexByteString", "internal/bytealg.IndexString"], unfollowed := true, recurses := true, named := ["internal/bytealg.MaxLen"], plainKeys := false, apart := false, narrowed := true }
def ExprBlanksUptoSaid : Prop := exprBlanksUptoRow.holds Try.pinned (OpenSpec.upto exprBlanksSpec)

end Rows
end Go.Proofs.Ytnnaejkhbccnaaa

/-
  NARROWER THAN 'FOR EVERY INPUT', by the rows' own cells (each row's printed sentence says how): IdealKnown: laid · IdealFits: loops, laid.
  DERIVED. THE GIVEN ROWS OF THIS SEAT. 2 by the template 'for every input the law returns true; each argument reads behind the call as it read before'; 0 by the template 'total and deterministic' (their statements: YtepdecnegihhhaaGreatDoorTotals.lean).
  GIVEN WITH THE SEED: the statements are not yours to turn. If you find one false, say at which input.
  Laid BY PROGRAM, IN A SANDBOX (cutbox-rows.mjs): the forced cells as the released guide's own fill.sh prints them over the translation 6565499c6b074c60… (all of the seat's roots in one cut). By AI agents, Wed Nov 11 2026. No macro, syntax, notation, axiom, sorry.
-/
import Derived.Test.YtepdecnegihhhaaGreatDoorChecked
import GoSem.PinnedTables
import GoSem.Claim
import GoSem.ClaimJoined
import GoSem.ClaimMapViews
import Derived.JoinedTies
import Derived.KernelRfl
namespace Go.Proofs.YtepdecnegihhhaaGreatDoor
/- THE CELL 'sum', in the pinned program and in every row, IS THE sha256 OF THE DUMP (.gsa) THAT YtepdecnegihhhaaGreatDoorProg.lean LOADS. Nothing in Lean hashes anything: it is a label: what it is worth is what the hold of that sum in a sandbox is worth. -/
noncomputable def Tryz.pinned : Pinned := { name := "ytepdecnegihhhaagreatdoor", sum := "6565499c6b074c6016ee6a3c026c1f3d43a27c40895829b132905e8bb4522545", checked := Tryz.checked }
namespace Rows
def none {H : Type} : Left H := { results := [], args := [] }

/- WHAT THE LISTED PACKAGE-LEVEL VARIABLES READ AS WHEN THE CALL BEGINS. Each datum BY PROGRAM (the guide's laid-datum.mjs) off the statement by which the dump's own 'gosem.cut.vars' lays the variable. In a bare row this is a premise. The card (YtepdecnegihhhaaGreatDoorCards.lean) ties it to the program's text. -/
def laid_unicode_utf8_acceptRanges {H : Type} : DataW H := .agg [.agg [.lit (.int .u8 128), .lit (.int .u8 191)], .agg [.lit (.int .u8 160), .lit (.int .u8 191)], .agg [.lit (.int .u8 128), .lit (.int .u8 159)], .agg [.lit (.int .u8 144), .lit (.int .u8 191)], .agg [.lit (.int .u8 128), .lit (.int .u8 143)], .agg [.lit (.int .u8 0), .lit (.int .u8 0)], .agg [.lit (.int .u8 0), .lit (.int .u8 0)], .agg [.lit (.int .u8 0), .lit (.int .u8 0)], .agg [.lit (.int .u8 0), .lit (.int .u8 0)], .agg [.lit (.int .u8 0), .lit (.int .u8 0)], .agg [.lit (.int .u8 0), .lit (.int .u8 0)], .agg [.lit (.int .u8 0), .lit (.int .u8 0)], .agg [.lit (.int .u8 0), .lit (.int .u8 0)], .agg [.lit (.int .u8 0), .lit (.int .u8 0)], .agg [.lit (.int .u8 0), .lit (.int .u8 0)], .agg [.lit (.int .u8 0), .lit (.int .u8 0)]]
def laid_changeling_job_asks {H : Type} : DataW H := .agg [.agg [.lit (.int .i64 0), .lit (.int .i64 0), .lit (.int .u8 0), .lit (.bool false), .lit (.int .i64 0), .lit (.int .i64 0), .lit (.bool false)], .agg [.lit (.int .i64 0), .lit (.int .i64 0), .lit (.int .u8 0), .lit (.bool false), .lit (.int .i64 0), .lit (.int .i64 0), .lit (.bool false)], .agg [.lit (.int .i64 1), .lit (.int .i64 1), .lit (.int .u8 1), .lit (.bool false), .lit (.int .i64 0), .lit (.int .i64 0), .lit (.bool false)], .agg [.lit (.int .i64 1), .lit (.int .i64 1), .lit (.int .u8 2), .lit (.bool false), .lit (.int .i64 0), .lit (.int .i64 0), .lit (.bool false)], .agg [.lit (.int .i64 1), .lit (.int .i64 1), .lit (.int .u8 1), .lit (.bool false), .lit (.int .i64 0), .lit (.int .i64 0), .lit (.bool false)], .agg [.lit (.int .i64 1), .lit (.int .i64 1), .lit (.int .u8 1), .lit (.bool false), .lit (.int .i64 0), .lit (.int .i64 0), .lit (.bool false)], .agg [.lit (.int .i64 1), .lit (.int .i64 1), .lit (.int .u8 1), .lit (.bool true), .lit (.int .i64 0), .lit (.int .i64 0), .lit (.bool true)], .agg [.lit (.int .i64 1), .lit (.int .i64 1), .lit (.int .u8 0), .lit (.bool false), .lit (.int .i64 1), .lit (.int .i64 16), .lit (.bool true)], .agg [.lit (.int .i64 2), .lit (.int .i64 3), .lit (.int .u8 0), .lit (.bool false), .lit (.int .i64 0), .lit (.int .i64 0), .lit (.bool false)], .agg [.lit (.int .i64 1), .lit (.int .i64 1), .lit (.int .u8 0), .lit (.bool false), .lit (.int .i64 0), .lit (.int .i64 0), .lit (.bool false)]]
def laid_changeling_script_kinds {H : Type} : DataW H := .agg [.agg [.lit (.string []), .lit (.bool false), .lit (.bool false)], .agg [.lit (.string [115, 111, 117, 114, 99, 101]), .lit (.bool false), .lit (.bool false)], .agg [.lit (.string [109, 97, 112]), .lit (.bool false), .lit (.bool true)], .agg [.lit (.string [102, 105, 108, 116, 101, 114]), .lit (.bool false), .lit (.bool true)], .agg [.lit (.string [102, 108, 97, 116]), .lit (.bool false), .lit (.bool true)], .agg [.lit (.string [107, 101, 121]), .lit (.bool false), .lit (.bool true)], .agg [.lit (.string [114, 101, 100, 117, 99, 101]), .lit (.bool false), .lit (.bool true)], .agg [.lit (.string [119, 105, 110, 100, 111, 119]), .lit (.bool true), .lit (.bool false)], .agg [.lit (.string [117, 110, 105, 111, 110]), .lit (.bool false), .lit (.bool false)], .agg [.lit (.string [115, 105, 110, 107]), .lit (.bool false), .lit (.bool false)]]
/-- One of Go's own tables, pinned by name: the form's constant. -/
def laid_unicode_utf8_first : DataW Unit := Go.Pinned.utf8First

/-- 'changelinglaw18.IdealKnown': WHATEVER THE INPUT: true; the input reads as it did. -/
def idealKnownSpec : ChangeSpec := { name := "idealKnown", fn := fun _ => fun
  | [] => { results := [.lit (.bool true)], args := [] }
  | _ => none }
def idealKnownRow : OpenClaim := { program := "ytepdecnegihhhaagreatdoor", sum := "6565499c6b074c6016ee6a3c026c1f3d43a27c40895829b132905e8bb4522545", func := "changeling/changelinglaw18.IdealKnown", spec := "idealKnown", inPlace := ["internal/bytealg.IndexByteString", "internal/bytealg.IndexString", "internal/reflectlite.ValueOf", "internal/reflectlite.Swapper", "(internal/reflectlite.Value).Len"], unfollowed := true, recurses := true, named := ["unicode/utf8.first", "unicode/utf8.acceptRanges", "internal/bytealg.MaxLen", "changeling/script.kinds", "changeling/job.asks"], plainKeys := false, apart := false, laid := [("unicode/utf8.acceptRanges", laid_unicode_utf8_acceptRanges), ("changeling/job.asks", laid_changeling_job_asks), ("changeling/script.kinds", laid_changeling_script_kinds), ("unicode/utf8.first", laid_unicode_utf8_first)] }
def IdealKnownSaid : Prop := idealKnownRow.holds Tryz.pinned (OpenSpec.ofChange idealKnownSpec)

/-- ITS FALSE NEIGHBOUR: 'it returns false'. Refute it at one input. -/
def idealKnownWrong : ChangeSpec := { name := "idealKnown", fn := fun _ => fun
  | [] => { results := [.lit (.bool false)], args := [] }
  | _ => none }
def IdealKnownWrongFalsely : Prop := idealKnownRow.holds Tryz.pinned (OpenSpec.ofChange idealKnownWrong)

/-- 'changelinglaw18.IdealFits': WHATEVER THE INPUT: true; the input reads as it did. -/
def idealFitsSpec : ChangeSpec := { name := "idealFits", fn := fun _ => fun
  | [d1, d2] => { results := [.lit (.bool true)], args := [d1, d2] }
  | _ => none }
def idealFitsRow : OpenClaim := { program := "ytepdecnegihhhaagreatdoor", sum := "6565499c6b074c6016ee6a3c026c1f3d43a27c40895829b132905e8bb4522545", func := "changeling/changelinglaw18.IdealFits", spec := "idealFits", inPlace := ["internal/bytealg.IndexByteString", "internal/bytealg.IndexString", "internal/reflectlite.ValueOf", "internal/reflectlite.Swapper", "(internal/reflectlite.Value).Len"], unfollowed := true, recurses := true, named := ["unicode/utf8.first", "unicode/utf8.acceptRanges", "internal/bytealg.MaxLen", "changeling/script.kinds", "changeling/job.asks"], loops := true, plainKeys := false, apart := false, laid := [("unicode/utf8.acceptRanges", laid_unicode_utf8_acceptRanges), ("changeling/job.asks", laid_changeling_job_asks), ("changeling/script.kinds", laid_changeling_script_kinds), ("unicode/utf8.first", laid_unicode_utf8_first)] }
def IdealFitsSaid : Prop := idealFitsRow.holds Tryz.pinned (OpenSpec.ofChange idealFitsSpec)

/-- ITS FALSE NEIGHBOUR: 'it returns false'. Refute it at one input. -/
def idealFitsWrong : ChangeSpec := { name := "idealFits", fn := fun _ => fun
  | [d1, d2] => { results := [.lit (.bool false)], args := [d1, d2] }
  | _ => none }
def IdealFitsWrongFalsely : Prop := idealFitsRow.holds Tryz.pinned (OpenSpec.ofChange idealFitsWrong)

/- THE SECOND FORM. 'bulk': how many values and letters a reading holds, each counted each time it is reached (what is shared counts as often as it is met; a slice's spare places count too). A statement '..UptoSaid' is the law's where the arguments, and the package variables that the reading takes, are together of bulk at most 1048576: NARROWER than '..Said'. Prove '..Said' where nothing that the law and all that it calls make is longer than what came in: it says more and counts as full. Else prove '..UptoSaid'. A law counts once. -/
mutual
def uptoBulk {H : Type} : DataW H → Nat
  | .lit (.string bytes) => bytes.length + 1
  | .lit _ => 1
  | .nil => 1
  | .ptr d => uptoBulk d + 1
  | .slice elems spare => uptoBulkAll elems + uptoBulkAll spare + 1
  | .agg parts => uptoBulkAll parts + 1
  | .iface _ d => uptoBulk d + 1
  | .map entries => uptoBulkEntries entries + 1
  | .held _ => 1
def uptoBulkAll {H : Type} : List (DataW H) → Nat
  | [] => 0
  | d :: r => uptoBulk d + uptoBulkAll r
def uptoBulkEntries {H : Type} : List (Lit × DataW H) → Nat
  | [] => 0
  | x :: r => uptoBulkEntry x + uptoBulkEntries r
def uptoBulkEntry {H : Type} : Lit × DataW H → Nat
  | (.string bytes, d) => bytes.length + uptoBulk d + 1
  | (_, d) => uptoBulk d + 1
 end
def uptoSmall : (H : Type) → List (DataW H) → Bool := fun _ ds => decide (uptoBulkAll ds ≤ 1048576)
def OpenSpec.upto (s : _root_.Go.ChangeSpec) : _root_.Go.OpenSpec := { _root_.Go.OpenSpec.ofChange s with cond := some uptoSmall }

/-- 'changelinglaw18.IdealKnown', WHERE WHAT IT READS IS OF BULK AT MOST 1048576: true; the input reads as it did. -/
def idealKnownUptoRow : OpenClaim := { program := "ytepdecnegihhhaagreatdoor", sum := "6565499c6b074c6016ee6a3c026c1f3d43a27c40895829b132905e8bb4522545", func := "changeling/changelinglaw18.IdealKnown", spec := "idealKnown", inPlace := ["internal/bytealg.IndexByteString", "internal/bytealg.IndexString", "internal/reflectlite.ValueOf", "internal/reflectlite.Swapper", "(internal/reflectlite.Value).Len"], unfollowed := true, recurses := true, named := ["unicode/utf8.first", "unicode/utf8.acceptRanges", "internal/bytealg.MaxLen", "changeling/script.kinds", "changeling/job.asks"], plainKeys := false, apart := false, laid := [("unicode/utf8.acceptRanges", laid_unicode_utf8_acceptRanges), ("changeling/job.asks", laid_changeling_job_asks), ("changeling/script.kinds", laid_changeling_script_kinds), ("unicode/utf8.first", laid_unicode_utf8_first)], narrowed := true }
def IdealKnownUptoSaid : Prop := idealKnownUptoRow.holds Tryz.pinned (OpenSpec.upto idealKnownSpec)

/-- 'changelinglaw18.IdealFits', WHERE WHAT IT READS IS OF BULK AT MOST 1048576: true; the input reads as it did. -/
def idealFitsUptoRow : OpenClaim := { program := "ytepdecnegihhhaagreatdoor", sum := "6565499c6b074c6016ee6a3c026c1f3d43a27c40895829b132905e8bb4522545", func := "changeling/changelinglaw18.IdealFits", spec := "idealFits", inPlace := ["internal/bytealg.IndexByteString", "internal/bytealg.IndexString", "internal/reflectlite.ValueOf", "internal/reflectlite.Swapper", "(internal/reflectlite.Value).Len"], unfollowed := true, recurses := true, named := ["unicode/utf8.first", "unicode/utf8.acceptRanges", "internal/bytealg.MaxLen", "changeling/script.kinds", "changeling/job.asks"], loops := true, plainKeys := false, apart := false, laid := [("unicode/utf8.acceptRanges", laid_unicode_utf8_acceptRanges), ("changeling/job.asks", laid_changeling_job_asks), ("changeling/script.kinds", laid_changeling_script_kinds), ("unicode/utf8.first", laid_unicode_utf8_first)], narrowed := true }
def IdealFitsUptoSaid : Prop := idealFitsUptoRow.holds Tryz.pinned (OpenSpec.upto idealFitsSpec)

end Rows
end Go.Proofs.YtepdecnegihhhaaGreatDoor

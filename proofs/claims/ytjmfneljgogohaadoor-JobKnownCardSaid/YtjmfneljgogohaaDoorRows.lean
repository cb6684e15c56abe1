/-
  NARROWER THAN 'FOR EVERY INPUT', by the rows' own cells (each row's printed sentence says how): JobKnown: laid · JobSame: loops, laid · JobWhole: loops, laid · JobCounts: loops, laid · JobPars: loops, laid.
  DERIVED. THE GIVEN ROWS OF THIS SEAT. 5 by the template 'for every input the law returns true; each argument reads behind the call as it read before'; 0 by the template 'total and deterministic' (their statements: YtjmfneljgogohaaDoorTotals.lean).
  GIVEN WITH THE SEED: the statements are not yours to turn. If you find one false, say at which input.
  Laid BY PROGRAM, IN A SANDBOX (cutbox-rows.mjs): the forced cells as the released guide's own fill.sh prints them over the translation acf5d0b5f6c9e69d… (all of the seat's roots in one cut). By AI agents, Wed Nov 11 2026. No macro, syntax, notation, axiom, sorry.
-/
import Derived.Test.YtjmfneljgogohaaDoorChecked
import GoSem.Claim
import GoSem.ClaimJoined
import GoSem.ClaimMapViews
import Derived.JoinedTies
import Derived.KernelRfl
namespace Go.Proofs.YtjmfneljgogohaaDoor
/- THE CELL 'sum', in the pinned program and in every row, IS THE sha256 OF THE DUMP (.gsa) THAT YtjmfneljgogohaaDoorProg.lean LOADS. Nothing in Lean hashes anything: it is a label: what it is worth is what the hold of that sum in a sandbox is worth. -/
noncomputable def Tryd.pinned : Pinned := { name := "ytjmfneljgogohaadoor", sum := "acf5d0b5f6c9e69d88ba7bbc27cab57eeee30cd724074b8edaa7e35658431cb9", checked := Tryd.checked }
namespace Rows
def none {H : Type} : Left H := { results := [], args := [] }

/- WHAT THE LISTED PACKAGE-LEVEL VARIABLES READ AS WHEN THE CALL BEGINS. Each datum BY PROGRAM (the guide's laid-datum.mjs) off the statement by which the dump's own 'gosem.cut.vars' lays the variable. In a bare row this is a premise. The card (YtjmfneljgogohaaDoorCards.lean) ties it to the program's text. -/
def laid_changeling_job_asks {H : Type} : DataW H := .agg [.agg [.lit (.int .i64 0), .lit (.int .i64 0), .lit (.int .u8 0), .lit (.bool false), .lit (.int .i64 0), .lit (.int .i64 0), .lit (.bool false)], .agg [.lit (.int .i64 0), .lit (.int .i64 0), .lit (.int .u8 0), .lit (.bool false), .lit (.int .i64 0), .lit (.int .i64 0), .lit (.bool false)], .agg [.lit (.int .i64 1), .lit (.int .i64 1), .lit (.int .u8 1), .lit (.bool false), .lit (.int .i64 0), .lit (.int .i64 0), .lit (.bool false)], .agg [.lit (.int .i64 1), .lit (.int .i64 1), .lit (.int .u8 2), .lit (.bool false), .lit (.int .i64 0), .lit (.int .i64 0), .lit (.bool false)], .agg [.lit (.int .i64 1), .lit (.int .i64 1), .lit (.int .u8 1), .lit (.bool false), .lit (.int .i64 0), .lit (.int .i64 0), .lit (.bool false)], .agg [.lit (.int .i64 1), .lit (.int .i64 1), .lit (.int .u8 1), .lit (.bool false), .lit (.int .i64 0), .lit (.int .i64 0), .lit (.bool false)], .agg [.lit (.int .i64 1), .lit (.int .i64 1), .lit (.int .u8 1), .lit (.bool true), .lit (.int .i64 0), .lit (.int .i64 0), .lit (.bool true)], .agg [.lit (.int .i64 1), .lit (.int .i64 1), .lit (.int .u8 0), .lit (.bool false), .lit (.int .i64 1), .lit (.int .i64 16), .lit (.bool true)], .agg [.lit (.int .i64 2), .lit (.int .i64 3), .lit (.int .u8 0), .lit (.bool false), .lit (.int .i64 0), .lit (.int .i64 0), .lit (.bool false)], .agg [.lit (.int .i64 1), .lit (.int .i64 1), .lit (.int .u8 0), .lit (.bool false), .lit (.int .i64 0), .lit (.int .i64 0), .lit (.bool false)]]

/-- 'changelinglaw12.JobKnown': WHATEVER THE INPUT: true; the input reads as it did. -/
def jobKnownSpec : ChangeSpec := { name := "jobKnown", fn := fun _ => fun
  | [] => { results := [.lit (.bool true)], args := [] }
  | _ => none }
def jobKnownRow : OpenClaim := { program := "ytjmfneljgogohaadoor", sum := "acf5d0b5f6c9e69d88ba7bbc27cab57eeee30cd724074b8edaa7e35658431cb9", func := "changeling/changelinglaw12.JobKnown", spec := "jobKnown", unfollowed := true, recurses := true, named := ["changeling/job.asks"], plainKeys := false, apart := false, laid := [("changeling/job.asks", laid_changeling_job_asks)] }
def JobKnownSaid : Prop := jobKnownRow.holds Tryd.pinned (OpenSpec.ofChange jobKnownSpec)

/-- ITS FALSE NEIGHBOUR: 'it returns false'. Refute it at one input. -/
def jobKnownWrong : ChangeSpec := { name := "jobKnown", fn := fun _ => fun
  | [] => { results := [.lit (.bool false)], args := [] }
  | _ => none }
def JobKnownWrongFalsely : Prop := jobKnownRow.holds Tryd.pinned (OpenSpec.ofChange jobKnownWrong)

/-- 'changelinglaw12.JobSame': WHATEVER THE INPUT: true; the input reads as it did. -/
def jobSameSpec : ChangeSpec := { name := "jobSame", fn := fun _ => fun
  | [d1, d2, d3] => { results := [.lit (.bool true)], args := [d1, d2, d3] }
  | _ => none }
def jobSameRow : OpenClaim := { program := "ytjmfneljgogohaadoor", sum := "acf5d0b5f6c9e69d88ba7bbc27cab57eeee30cd724074b8edaa7e35658431cb9", func := "changeling/changelinglaw12.JobSame", spec := "jobSame", unfollowed := true, recurses := true, named := ["changeling/job.asks"], loops := true, plainKeys := false, apart := false, laid := [("changeling/job.asks", laid_changeling_job_asks)] }
def JobSameSaid : Prop := jobSameRow.holds Tryd.pinned (OpenSpec.ofChange jobSameSpec)

/-- ITS FALSE NEIGHBOUR: 'it returns false'. Refute it at one input. -/
def jobSameWrong : ChangeSpec := { name := "jobSame", fn := fun _ => fun
  | [d1, d2, d3] => { results := [.lit (.bool false)], args := [d1, d2, d3] }
  | _ => none }
def JobSameWrongFalsely : Prop := jobSameRow.holds Tryd.pinned (OpenSpec.ofChange jobSameWrong)

/-- 'changelinglaw12.JobWhole': WHATEVER THE INPUT: true; the input reads as it did. -/
def jobWholeSpec : ChangeSpec := { name := "jobWhole", fn := fun _ => fun
  | [d] => { results := [.lit (.bool true)], args := [d] }
  | _ => none }
def jobWholeRow : OpenClaim := { program := "ytjmfneljgogohaadoor", sum := "acf5d0b5f6c9e69d88ba7bbc27cab57eeee30cd724074b8edaa7e35658431cb9", func := "changeling/changelinglaw12.JobWhole", spec := "jobWhole", unfollowed := true, recurses := true, named := ["changeling/job.asks"], loops := true, plainKeys := false, apart := false, laid := [("changeling/job.asks", laid_changeling_job_asks)] }
def JobWholeSaid : Prop := jobWholeRow.holds Tryd.pinned (OpenSpec.ofChange jobWholeSpec)

/-- ITS FALSE NEIGHBOUR: 'it returns false'. Refute it at one input. -/
def jobWholeWrong : ChangeSpec := { name := "jobWhole", fn := fun _ => fun
  | [d] => { results := [.lit (.bool false)], args := [d] }
  | _ => none }
def JobWholeWrongFalsely : Prop := jobWholeRow.holds Tryd.pinned (OpenSpec.ofChange jobWholeWrong)

/-- 'changelinglaw12.JobCounts': WHATEVER THE INPUT: true; the input reads as it did. -/
def jobCountsSpec : ChangeSpec := { name := "jobCounts", fn := fun _ => fun
  | [d] => { results := [.lit (.bool true)], args := [d] }
  | _ => none }
def jobCountsRow : OpenClaim := { program := "ytjmfneljgogohaadoor", sum := "acf5d0b5f6c9e69d88ba7bbc27cab57eeee30cd724074b8edaa7e35658431cb9", func := "changeling/changelinglaw12.JobCounts", spec := "jobCounts", unfollowed := true, recurses := true, named := ["changeling/job.asks"], loops := true, plainKeys := false, apart := false, laid := [("changeling/job.asks", laid_changeling_job_asks)] }
def JobCountsSaid : Prop := jobCountsRow.holds Tryd.pinned (OpenSpec.ofChange jobCountsSpec)

/-- ITS FALSE NEIGHBOUR: 'it returns false'. Refute it at one input. -/
def jobCountsWrong : ChangeSpec := { name := "jobCounts", fn := fun _ => fun
  | [d] => { results := [.lit (.bool false)], args := [d] }
  | _ => none }
def JobCountsWrongFalsely : Prop := jobCountsRow.holds Tryd.pinned (OpenSpec.ofChange jobCountsWrong)

/-- 'changelinglaw12.JobPars': WHATEVER THE INPUT: true; the input reads as it did. -/
def jobParsSpec : ChangeSpec := { name := "jobPars", fn := fun _ => fun
  | [d1, d2, d3] => { results := [.lit (.bool true)], args := [d1, d2, d3] }
  | _ => none }
def jobParsRow : OpenClaim := { program := "ytjmfneljgogohaadoor", sum := "acf5d0b5f6c9e69d88ba7bbc27cab57eeee30cd724074b8edaa7e35658431cb9", func := "changeling/changelinglaw12.JobPars", spec := "jobPars", unfollowed := true, recurses := true, named := ["changeling/job.asks"], loops := true, plainKeys := false, apart := false, laid := [("changeling/job.asks", laid_changeling_job_asks)] }
def JobParsSaid : Prop := jobParsRow.holds Tryd.pinned (OpenSpec.ofChange jobParsSpec)

/-- ITS FALSE NEIGHBOUR: 'it returns false'. Refute it at one input. -/
def jobParsWrong : ChangeSpec := { name := "jobPars", fn := fun _ => fun
  | [d1, d2, d3] => { results := [.lit (.bool false)], args := [d1, d2, d3] }
  | _ => none }
def JobParsWrongFalsely : Prop := jobParsRow.holds Tryd.pinned (OpenSpec.ofChange jobParsWrong)

/- THE SECOND FORM. 'bulk': how many values and letters a reading holds, each counted each time it is reached (what is shared counts as often as it is met; a slice's spare places count too). A statement '..UptoSaid' is the law's where the arguments, and the package variables that the reading takes, are together of bulk at most 1048576: NARROWER than '..Said'. Prove '..Said' where nothing that the law and all that it calls make is longer than what came in: it says more and counts as full. Else prove '..UptoSaid'. A law counts once. -/
mutual
def uptoBulk {H : Type} : DataW H → Nat
  | .lit (.string bytes) => bytes.length + 1
  | .lit _ => 1
  | .nil => 1
  | .ptr d => uptoBulk d + 1
  | .slice elems spare => uptoBulkAll elems + uptoBulkAll spare + 1
  | .agg parts => uptoBulkAll parts + 1
  | .iface _ d => uptoBulk d + 1
  | .map entries => uptoBulkEntries entries + 1
  | .held _ => 1
def uptoBulkAll {H : Type} : List (DataW H) → Nat
  | [] => 0
  | d :: r => uptoBulk d + uptoBulkAll r
def uptoBulkEntries {H : Type} : List (Lit × DataW H) → Nat
  | [] => 0
  | x :: r => uptoBulkEntry x + uptoBulkEntries r
def uptoBulkEntry {H : Type} : Lit × DataW H → Nat
  | (.string bytes, d) => bytes.length + uptoBulk d + 1
  | (_, d) => uptoBulk d + 1
 end
def uptoSmall : (H : Type) → List (DataW H) → Bool := fun _ ds => decide (uptoBulkAll ds ≤ 1048576)
def OpenSpec.upto (s : _root_.Go.ChangeSpec) : _root_.Go.OpenSpec := { _root_.Go.OpenSpec.ofChange s with cond := some uptoSmall }

/-- 'changelinglaw12.JobKnown', WHERE WHAT IT READS IS OF BULK AT MOST 1048576: true; the input reads as it did. -/
def jobKnownUptoRow : OpenClaim := { program := "ytjmfneljgogohaadoor", sum := "acf5d0b5f6c9e69d88ba7bbc27cab57eeee30cd724074b8edaa7e35658431cb9", func := "changeling/changelinglaw12.JobKnown", spec := "jobKnown", unfollowed := true, recurses := true, named := ["changeling/job.asks"], plainKeys := false, apart := false, laid := [("changeling/job.asks", laid_changeling_job_asks)], narrowed := true }
def JobKnownUptoSaid : Prop := jobKnownUptoRow.holds Tryd.pinned (OpenSpec.upto jobKnownSpec)

/-- 'changelinglaw12.JobSame', WHERE WHAT IT READS IS OF BULK AT MOST 1048576: true; the input reads as it did. -/
def jobSameUptoRow : OpenClaim := { program := "ytjmfneljgogohaadoor", sum := "acf5d0b5f6c9e69d88ba7bbc27cab57eeee30cd724074b8edaa7e35658431cb9", func := "changeling/changelinglaw12.JobSame", spec := "jobSame", unfollowed := true, recurses := true, named := ["changeling/job.asks"], loops := true, plainKeys := false, apart := false, laid := [("changeling/job.asks", laid_changeling_job_asks)], narrowed := true }
def JobSameUptoSaid : Prop := jobSameUptoRow.holds Tryd.pinned (OpenSpec.upto jobSameSpec)

/-- 'changelinglaw12.JobWhole', WHERE WHAT IT READS IS OF BULK AT MOST 1048576: true; the input reads as it did. -/
def jobWholeUptoRow : OpenClaim := { program := "ytjmfneljgogohaadoor", sum := "acf5d0b5f6c9e69d88ba7bbc27cab57eeee30cd724074b8edaa7e35658431cb9", func := "changeling/changelinglaw12.JobWhole", spec := "jobWhole", unfollowed := true, recurses := true, named := ["changeling/job.asks"], loops := true, plainKeys := false, apart := false, laid := [("changeling/job.asks", laid_changeling_job_asks)], narrowed := true }
def JobWholeUptoSaid : Prop := jobWholeUptoRow.holds Tryd.pinned (OpenSpec.upto jobWholeSpec)

/-- 'changelinglaw12.JobCounts', WHERE WHAT IT READS IS OF BULK AT MOST 1048576: true; the input reads as it did. -/
def jobCountsUptoRow : OpenClaim := { program := "ytjmfneljgogohaadoor", sum := "acf5d0b5f6c9e69d88ba7bbc27cab57eeee30cd724074b8edaa7e35658431cb9", func := "changeling/changelinglaw12.JobCounts", spec := "jobCounts", unfollowed := true, recurses := true, named := ["changeling/job.asks"], loops := true, plainKeys := false, apart := false, laid := [("changeling/job.asks", laid_changeling_job_asks)], narrowed := true }
def JobCountsUptoSaid : Prop := jobCountsUptoRow.holds Tryd.pinned (OpenSpec.upto jobCountsSpec)

/-- 'changelinglaw12.JobPars', WHERE WHAT IT READS IS OF BULK AT MOST 1048576: true; the input reads as it did. -/
def jobParsUptoRow : OpenClaim := { program := "ytjmfneljgogohaadoor", sum := "acf5d0b5f6c9e69d88ba7bbc27cab57eeee30cd724074b8edaa7e35658431cb9", func := "changeling/changelinglaw12.JobPars", spec := "jobPars", unfollowed := true, recurses := true, named := ["changeling/job.asks"], loops := true, plainKeys := false, apart := false, laid := [("changeling/job.asks", laid_changeling_job_asks)], narrowed := true }
def JobParsUptoSaid : Prop := jobParsUptoRow.holds Tryd.pinned (OpenSpec.upto jobParsSpec)

end Rows
end Go.Proofs.YtjmfneljgogohaaDoor

/- The job that the statements put numbers together by; its memory. -/
import Derived.Test.YtepdecnegihhhaaGreatDoorMIa
import Derived.Test.YtepdecnegihhhaaGreatDoorMIc
import Derived.Test.YtepdecnegihhhaaGreatDoorMSe
import Derived.Test.YtepdecnegihhhaaGreatDoorMTq
set_option linter.unusedSimpArgs false
set_option linter.unusedVariables false
namespace Go.Proofs.YtepdecnegihhhaaGreatDoor.idl
open Go.RowKit nam exp jb
open sc (parseJ KTab parse_any Res)
open tbl (IsTab takeT lt_of_get)
def sumsT : ByteArray := ⟨#[112, 97, 114, 32, 50, 10, 115, 32, 115, 111, 117, 114, 99, 101, 10, 114, 32, 114, 101, 100, 117, 99, 101, 32, 115, 32, 58, 32, 97, 99, 99, 32, 43, 32, 118, 97, 108, 10, 116, 32, 115, 105, 110, 107, 32, 114]⟩
def sumsN : List Nd := [⟨⟨#[115]⟩, 1, [], Ex.zero, 0⟩, ⟨⟨#[114]⟩, 6, [0], ⟨7, 0, [⟨4, 0, []⟩, ⟨3, 0, []⟩]⟩, 0⟩, ⟨⟨#[116]⟩, 9, [1], Ex.zero, 0⟩]
set_option maxRecDepth 1000000 in
theorem parse_sums : parseJ sumsT = (2, sumsN, 0, 0) := by kernel_rfl
set_option maxRecDepth 1000000 in
theorem may_sums : mayO 2 sumsN = (0, 0) := by kernel_rfl
theorem may_none : mayO 0 [] = (0, 2) := by kernel_rfl
theorem find_s : findI sumsN ⟨#[115]⟩ = 0 := by kernel_rfl
theorem find_r : findI sumsN ⟨#[114]⟩ = 1 := by kernel_rfl
def badB : ByteArray := ⟨#[2, 0, 0, 2, 0]⟩
theorem take_bad : takeT (byt.bl badB) = (0, [(0, (0, [0]))]) := by kernel_rfl
theorem fits_bad : fitsB 6 0 [(0, (0, [0]))] = false := by kernel_rfl
theorem sums_small : ∀ nd ∈ sumsN, nd.ins.length ≤ 1000000 ∧ nd.x.size ≤ 1000000 := by
 intro nd h
 simp only [sumsN, List.mem_cons, List.not_mem_nil, or_false] at h
 rcases h with rfl | rfl | rfl <;> decide
theorem parse_of {s : ByteArray} {o : Res} (h : parseJ s = o) {w : World} (hk : KTab w) (ht : jb.Tab w) : Calls Tryz.prog 18 #[.string s] w fun e w' =>
  ∃ a c, e = .returned (.tuple #[.agg #[.int .i64 o.1, .slice a o.2.1.length c], .int .i64 o.2.2.1, .int .i64 o.2.2.2]) ∧ sc.NodesJ w' (.slice a o.2.1.length c) o.2.1 ∧ Below w.heap.size w w' := by
 have := parse_any s hk ht
 rw [h] at this
 refine this.mono ?_
 rintro e w' ⟨v, rfl, hn, hb⟩
 obtain ⟨a, c, rfl, -, -⟩ := hn.nodes
 exact ⟨a, c, rfl, hn, hb⟩
structure IsId (w0 w : World) (d m n : Nat) (a : Option Addr) (c : Nat) (T : Int → Option Nat) : Prop where
 nodes : Nodes w0 (.slice a 3 c) sumsN
 bel : Below w0.heap.size w0 w
 obj : w.heap[d]? = some (.cells #[.slice a 3 c, .map (some m)] 63 (0, 0))
 map : PtM w m n T
 lo : w0.heap.size ≤ d ∧ w0.heap.size ≤ m
theorem IsId.below {w0 w w' : World} {d m n : Nat} {a : Option Addr} {c : Nat} {T : Int → Option Nat} (h : IsId w0 w d m n a c T) (hb : Below w.heap.size w w') : IsId w0 w' d m n a c T :=
 ⟨h.nodes, h.bel.trans (hb.mono h.bel.size), (hb.block d (lt_of_get h.obj)).trans h.obj, h.map.below hb, h.lo⟩
theorem IsId.on {w0 w : World} {d m n : Nat} {a : Option Addr} {c : Nat} {T : Int → Option Nat} (h : IsId w0 w d m n a c T) : Nodes w (.slice a 3 c) sumsN := h.nodes.on h.bel
theorem IsId.cells {w0 w : World} {d m n : Nat} {a : Option Addr} {c : Nat} {T : Int → Option Nat} (h : IsId w0 w d m n a c T) : w.cell? ⟨d, 0, none⟩ = some (.slice a 3 c) ∧ w.cell? ⟨d, 1, none⟩ = some (.map (some m)) :=
 ⟨cell_of h.obj rfl, cell_of h.obj rfl⟩
theorem IsId.only {w0 w w' : World} {d m n t b : Nat} {a : Option Addr} {c : Nat} {T : Int → Option Nat} {L : tbl.Rows} (h : IsId w0 w d m n a c T) (ht : IsTab w t b L) (hm : m ≠ b) (hl : w0.heap.size ≤ t ∧ w0.heap.size ≤ b) (ho : tbl.Only (tbl.Two t b) w w') : IsId w0 w' d m n a c T := by
 obtain ⟨es, ck, h1⟩ := h.map.isMap
 obtain ⟨es2, ck2, h2⟩ := ht.map.isMap
 have h3 := ht.obj
 unfold tbl.TabO at h3
 refine ⟨h.nodes, ?_, ?_, h.map.keep (ho.block m h.map.lt (fun e => ?_)), h.lo⟩
 · refine ⟨ho.os.trans h.bel.os, ho.tape.trans h.bel.tape, ho.output.trans h.bel.output, Nat.le_trans h.bel.size ho.size, fun k hk => ?_⟩
   refine (ho.block k (Nat.lt_of_lt_of_le hk h.bel.size) (fun e => ?_)).trans (h.bel.block k hk)
   rcases e with e | e <;> omega
 · refine (ho.block d (lt_of_get h.obj) (fun e => ?_)).trans h.obj
   have h4 := h.obj
   rcases e with e | e
   · rw [e, h3] at h4; cases h4
   · rw [e, h2] at h4; cases h4
 · rcases e with e | e
   · rw [e, h3] at h1; cases h1
   · exact hm e
def oneT (t : Nat) : Int → Option Nat := fun x => if x = 1 then some t else none
structure IsSums (B : Nat) (w : World) (d t b : Nat) (L : tbl.Rows) : Prop where
 ex : ∃ w0 m n a c, IsId w0 w d m n a c (oneT t) ∧ m ≠ b ∧ w0.heap.size ≤ t ∧ w0.heap.size ≤ b ∧ B ≤ w0.heap.size
 tab : IsTab w t b L
theorem IsSums.below {B : Nat} {w w' : World} {d t b : Nat} {L : tbl.Rows} (h : IsSums B w d t b L) (hb : Below w.heap.size w w') : IsSums B w' d t b L := by
 obtain ⟨w0, m, n, a, c, h1, h2, h3, h4, h5⟩ := h.ex
 exact ⟨⟨w0, m, n, a, c, h1.below hb, h2, h3, h4, h5⟩, h.tab.below hb⟩
theorem IsSums.only {B : Nat} {w w' : World} {d t b : Nat} {L L' : tbl.Rows} (h : IsSums B w d t b L) (ht : IsTab w' t b L') (ho : tbl.Only (tbl.Two t b) w w') : IsSums B w' d t b L' := by
 obtain ⟨w0, m, n, a, c, h1, h2, h3, h4, h5⟩ := h.ex
 exact ⟨⟨w0, m, n, a, c, h1.only h.tab h2 ⟨h3, h4⟩ ho, h2, h3, h4, h5⟩, ht⟩
theorem IsSums.lo {B : Nat} {w : World} {d t b : Nat} {L : tbl.Rows} (h : IsSums B w d t b L) : B ≤ t ∧ B ≤ b := by
 obtain ⟨w0, m, n, a, c, h1, h2, h3, h4, h5⟩ := h.ex
 omega
end Go.Proofs.YtepdecnegihhhaaGreatDoor.idl

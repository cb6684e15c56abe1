/- The two regions of Head that send and receive: every order of their operations. -/
import Derived.Test.YtknldabnkaecdaaPiD
namespace Go.Proofs.Ytknldabnkaecdaa.pip
set_option linter.unusedSimpArgs false
set_option linter.unusedVariables false
open Go.RowKit
open Go.Conc (rcase scase heap_setChan)
def q5_0 : Oper := { dst := some 21, op := Op.move (Operand.tmp 0), type := 30, pos := "pipe.go:71", after := #[], guard := none }
def q5_1 : Oper := { dst := some 22, op := Op.nilCheck (Operand.tmp 21), type := 0, pos := "pipe.go:71", after := #[{ on := 0, ground := Ground.data }], guard := none }
def q5_2 : Oper := { dst := some 23, op := Op.fieldAddr 58 (Operand.tmp 22) 0, type := 0, pos := "pipe.go:71", after := #[{ on := 1, ground := Ground.data }], guard := none }
def q5_3 : Oper := { dst := some 24, op := Op.load 56 (Operand.tmp 23), type := 56, pos := "pipe.go:71", after := #[{ on := 2, ground := Ground.data }], guard := none }
def q5_4 : Oper := { dst := some 25, op := Op.load 29 (Operand.tmp 4), type := 29, pos := "pipe.go:71", after := #[], guard := none }
def q5_5 : Oper := { dst := none, op := Op.send (Operand.tmp 24) (Operand.tmp 25), type := 0, pos := "pipe.go:71", after := #[{ on := 3, ground := Ground.data }, { on := 4, ground := Ground.data }], guard := none }
def ops5 : Array Oper := #[q5_0, q5_1, q5_2, q5_3, q5_4, q5_5]
theorem g5_0 : ops5[0]? = some q5_0 := rfl
theorem e5_0 {a : Act} {X : Value} (h : a.tmps[0]?.getD undef = X) (w : World) : (execOp a.eval q5_0).run Try.prog w = .ok (.value X) w := by simp [go_sem, execOp, q5_0, h]
theorem g5_1 : ops5[1]? = some q5_1 := rfl
theorem e5_1 {a : Act} {p : Nat} (h : a.tmps[21]?.getD undef = .pointer (some ⟨p, 0, none⟩)) (w : World) : (execOp a.eval q5_1).run Try.prog w = .ok (.value (.pointer (some ⟨p, 0, none⟩))) w := by simp [go_sem, execOp, q5_1, h]
theorem g5_2 : ops5[2]? = some q5_2 := rfl
theorem e5_2 {a : Act} {p : Nat} (h : a.tmps[22]?.getD undef = .pointer (some ⟨p, 0, none⟩)) (w : World) : (execOp a.eval q5_2).run Try.prog w = .ok (.value (.pointer (some ⟨p, 0, none⟩))) w := by simp [go_sem, execOp, q5_2, h]
theorem g5_3 : ops5[3]? = some q5_3 := rfl
theorem e5_3 {a : Act} {p c : Nat} (h : a.tmps[23]?.getD undef = .pointer (some ⟨p, 0, none⟩)) {w : World} (hp : w.cell? ⟨p, 0, none⟩ = some (.chan (some c))) : (execOp a.eval q5_3).run Try.prog w = .ok (.value (.chan (some c))) w := by simp [go_sem, execOp, q5_3, h, hp]
theorem g5_4 : ops5[4]? = some q5_4 := rfl
theorem e5_4 {a : Act} {p : Nat} {x y : Int} {u : Value} (h : a.tmps[4]?.getD undef = .pointer (some ⟨p, 0, none⟩)) {w : World} (m0 : w.cell? ⟨p, 0, none⟩ = some (.int .i64 x)) (m1 : w.cell? ⟨p, 1, none⟩ = some (.int .i64 y)) (m2 : w.cell? ⟨p, 2, none⟩ = some u) : (execOp a.eval q5_4).run Try.prog w = .ok (.value (.agg #[.int .i64 x, .int .i64 y, u])) w := by simp [go_sem, execOp, q5_4, h, m0, m1, m2]
theorem g5_5 : ops5[5]? = some q5_5 := rfl
theorem e5_5 {a : Act} {c cap s r : Nat} {buf : Array Value} {cl tm : Bool} {v : Value} (h : a.tmps[24]?.getD undef = .chan (some c)) (hv : a.tmps[25]?.getD undef = v) {w : World} (hc : w.heap[c]? = some (.chan cap buf cl s r tm)) : (execOp a.eval q5_5).run Try.prog w = .ok (.comm #[scase c v (.tuple #[])] true .send) w := by
  simp [go_sem, execOp, q5_5, h, hv, scase]
set_option maxHeartbeats 3200000 in
set_option maxRecDepth 1000000 in
/-- The first message is sent again. -/
theorem sent_region {Q : Exit → Act → World → Prop} {x1 x2 x3 x5 x6 x7 x8 x9 x10 x11 x12 x13 x14 x15 x16 x17 x18 x19 x20 x21 x22 x23 x24 x25 x26 x27 x28 x29 x30 x31 x32 x33 x34 x35 x36 x37 x38 x39 x40 : Value} {p c room M s r : Nat} {L : List Value} {x y : Int} {u : Value} {id : Nat} {w : World}
    (hp : w.cell? ⟨p, 0, none⟩ = some (.chan (some c))) (m0 : w.cell? ⟨M, 0, none⟩ = some (.int .i64 x)) (m1 : w.cell? ⟨M, 1, none⟩ = some (.int .i64 y)) (m2 : w.cell? ⟨M, 2, none⟩ = some u)
    (hc : w.heap[c]? = some (.chan room L.toArray false s r false)) (hroom : L.toArray.size < room)
    (hQ : Q .normal ⟨#[.pointer (some ⟨p, 0, none⟩), x1, x2, x3, .pointer (some ⟨M, 0, none⟩), x5, x6, x7, x8, x9, x10, x11, x12, x13, x14, x15, x16, x17, x18, x19, x20, .pointer (some ⟨p, 0, none⟩), .pointer (some ⟨p, 0, none⟩), .pointer (some ⟨p, 0, none⟩), .chan (some c), .agg #[.int .i64 x, .int .i64 y, u], x26, x27, x28, x29, x30, x31, x32, x33, x34, x35, x36, x37, x38, x39, x40], []⟩ ((w.drew).setChan c room (L.toArray.push (.agg #[.int .i64 x, .int .i64 y, u])) false (s + 1) r false)) :
    (Code.region id ops5 true).wp Try.prog Q ⟨#[.pointer (some ⟨p, 0, none⟩), x1, x2, x3, .pointer (some ⟨M, 0, none⟩), x5, x6, x7, x8, x9, x10, x11, x12, x13, x14, x15, x16, x17, x18, x19, x20, x21, x22, x23, x24, x25, x26, x27, x28, x29, x30, x31, x32, x33, x34, x35, x36, x37, x38, x39, x40], []⟩ w := by
  refine region_any (by kernel_rfl) ?_
  change AnyTo _ _ _ _ _ _ _ w.drew
  replace hp : w.drew.cell? ⟨p, 0, none⟩ = some (.chan (some c)) := hp
  replace m0 : w.drew.cell? ⟨M, 0, none⟩ = some (.int .i64 x) := m0
  replace m1 : w.drew.cell? ⟨M, 1, none⟩ = some (.int .i64 y) := m1
  replace m2 : w.drew.cell? ⟨M, 2, none⟩ = some u := m2
  replace hc : w.drew.heap[c]? = some (.chan room L.toArray false s r false) := hc
  generalize w.drew = W0 at *
  have s41 : AnyTo Try.prog .any ops5 Q 1 #[true, true, true, true, true, false] ⟨#[.pointer (some ⟨p, 0, none⟩), x1, x2, x3, .pointer (some ⟨M, 0, none⟩), x5, x6, x7, x8, x9, x10, x11, x12, x13, x14, x15, x16, x17, x18, x19, x20, .pointer (some ⟨p, 0, none⟩), .pointer (some ⟨p, 0, none⟩), .pointer (some ⟨p, 0, none⟩), .chan (some c), .agg #[.int .i64 x, .int .i64 y, u], x26, x27, x28, x29, x30, x31, x32, x33, x34, x35, x36, x37, x38, x39, x40], []⟩ W0 := AnyTo.all (rs := [5]) (by kernel_rfl) (by simp) (fun i hi => by
    obtain rfl := List.mem_singleton.1 hi
    exact op_send g5_5 rfl (e5_5 rfl rfl hc) hc hroom (AnyTo.last (by kernel_rfl) hQ))
  have s40 : AnyTo Try.prog .any ops5 Q 2 #[true, true, true, true, false, false] ⟨#[.pointer (some ⟨p, 0, none⟩), x1, x2, x3, .pointer (some ⟨M, 0, none⟩), x5, x6, x7, x8, x9, x10, x11, x12, x13, x14, x15, x16, x17, x18, x19, x20, .pointer (some ⟨p, 0, none⟩), .pointer (some ⟨p, 0, none⟩), .pointer (some ⟨p, 0, none⟩), .chan (some c), x25, x26, x27, x28, x29, x30, x31, x32, x33, x34, x35, x36, x37, x38, x39, x40], []⟩ W0 := AnyTo.all (rs := [4]) (by kernel_rfl) (by simp) (fun i hi => by
    obtain rfl := List.mem_singleton.1 hi
    exact op_value g5_4 rfl (e5_4 rfl m0 m1 m2) s41)
  have s31 : AnyTo Try.prog .any ops5 Q 2 #[true, true, true, false, true, false] ⟨#[.pointer (some ⟨p, 0, none⟩), x1, x2, x3, .pointer (some ⟨M, 0, none⟩), x5, x6, x7, x8, x9, x10, x11, x12, x13, x14, x15, x16, x17, x18, x19, x20, .pointer (some ⟨p, 0, none⟩), .pointer (some ⟨p, 0, none⟩), .pointer (some ⟨p, 0, none⟩), x24, .agg #[.int .i64 x, .int .i64 y, u], x26, x27, x28, x29, x30, x31, x32, x33, x34, x35, x36, x37, x38, x39, x40], []⟩ W0 := AnyTo.all (rs := [3]) (by kernel_rfl) (by simp) (fun i hi => by
    obtain rfl := List.mem_singleton.1 hi
    exact op_value g5_3 rfl (e5_3 rfl hp) s41)
  have s30 : AnyTo Try.prog .any ops5 Q 3 #[true, true, true, false, false, false] ⟨#[.pointer (some ⟨p, 0, none⟩), x1, x2, x3, .pointer (some ⟨M, 0, none⟩), x5, x6, x7, x8, x9, x10, x11, x12, x13, x14, x15, x16, x17, x18, x19, x20, .pointer (some ⟨p, 0, none⟩), .pointer (some ⟨p, 0, none⟩), .pointer (some ⟨p, 0, none⟩), x24, x25, x26, x27, x28, x29, x30, x31, x32, x33, x34, x35, x36, x37, x38, x39, x40], []⟩ W0 := AnyTo.all (rs := [3, 4]) (by kernel_rfl) (by simp) (fun i hi => by
    simp only [List.mem_cons, List.not_mem_nil, or_false] at hi
    rcases hi with rfl | rfl
    · exact op_value g5_3 rfl (e5_3 rfl hp) s40
    · exact op_value g5_4 rfl (e5_4 rfl m0 m1 m2) s31)
  have s21 : AnyTo Try.prog .any ops5 Q 3 #[true, true, false, false, true, false] ⟨#[.pointer (some ⟨p, 0, none⟩), x1, x2, x3, .pointer (some ⟨M, 0, none⟩), x5, x6, x7, x8, x9, x10, x11, x12, x13, x14, x15, x16, x17, x18, x19, x20, .pointer (some ⟨p, 0, none⟩), .pointer (some ⟨p, 0, none⟩), x23, x24, .agg #[.int .i64 x, .int .i64 y, u], x26, x27, x28, x29, x30, x31, x32, x33, x34, x35, x36, x37, x38, x39, x40], []⟩ W0 := AnyTo.all (rs := [2]) (by kernel_rfl) (by simp) (fun i hi => by
    obtain rfl := List.mem_singleton.1 hi
    exact op_value g5_2 rfl (e5_2 rfl _) s31)
  have s20 : AnyTo Try.prog .any ops5 Q 4 #[true, true, false, false, false, false] ⟨#[.pointer (some ⟨p, 0, none⟩), x1, x2, x3, .pointer (some ⟨M, 0, none⟩), x5, x6, x7, x8, x9, x10, x11, x12, x13, x14, x15, x16, x17, x18, x19, x20, .pointer (some ⟨p, 0, none⟩), .pointer (some ⟨p, 0, none⟩), x23, x24, x25, x26, x27, x28, x29, x30, x31, x32, x33, x34, x35, x36, x37, x38, x39, x40], []⟩ W0 := AnyTo.all (rs := [2, 4]) (by kernel_rfl) (by simp) (fun i hi => by
    simp only [List.mem_cons, List.not_mem_nil, or_false] at hi
    rcases hi with rfl | rfl
    · exact op_value g5_2 rfl (e5_2 rfl _) s30
    · exact op_value g5_4 rfl (e5_4 rfl m0 m1 m2) s21)
  have s11 : AnyTo Try.prog .any ops5 Q 4 #[true, false, false, false, true, false] ⟨#[.pointer (some ⟨p, 0, none⟩), x1, x2, x3, .pointer (some ⟨M, 0, none⟩), x5, x6, x7, x8, x9, x10, x11, x12, x13, x14, x15, x16, x17, x18, x19, x20, .pointer (some ⟨p, 0, none⟩), x22, x23, x24, .agg #[.int .i64 x, .int .i64 y, u], x26, x27, x28, x29, x30, x31, x32, x33, x34, x35, x36, x37, x38, x39, x40], []⟩ W0 := AnyTo.all (rs := [1]) (by kernel_rfl) (by simp) (fun i hi => by
    obtain rfl := List.mem_singleton.1 hi
    exact op_value g5_1 rfl (e5_1 rfl _) s21)
  have s10 : AnyTo Try.prog .any ops5 Q 5 #[true, false, false, false, false, false] ⟨#[.pointer (some ⟨p, 0, none⟩), x1, x2, x3, .pointer (some ⟨M, 0, none⟩), x5, x6, x7, x8, x9, x10, x11, x12, x13, x14, x15, x16, x17, x18, x19, x20, .pointer (some ⟨p, 0, none⟩), x22, x23, x24, x25, x26, x27, x28, x29, x30, x31, x32, x33, x34, x35, x36, x37, x38, x39, x40], []⟩ W0 := AnyTo.all (rs := [1, 4]) (by kernel_rfl) (by simp) (fun i hi => by
    simp only [List.mem_cons, List.not_mem_nil, or_false] at hi
    rcases hi with rfl | rfl
    · exact op_value g5_1 rfl (e5_1 rfl _) s20
    · exact op_value g5_4 rfl (e5_4 rfl m0 m1 m2) s11)
  have s01 : AnyTo Try.prog .any ops5 Q 5 #[false, false, false, false, true, false] ⟨#[.pointer (some ⟨p, 0, none⟩), x1, x2, x3, .pointer (some ⟨M, 0, none⟩), x5, x6, x7, x8, x9, x10, x11, x12, x13, x14, x15, x16, x17, x18, x19, x20, x21, x22, x23, x24, .agg #[.int .i64 x, .int .i64 y, u], x26, x27, x28, x29, x30, x31, x32, x33, x34, x35, x36, x37, x38, x39, x40], []⟩ W0 := AnyTo.all (rs := [0]) (by kernel_rfl) (by simp) (fun i hi => by
    obtain rfl := List.mem_singleton.1 hi
    exact op_value g5_0 rfl (e5_0 rfl _) s11)
  have s00 : AnyTo Try.prog .any ops5 Q 6 #[false, false, false, false, false, false] ⟨#[.pointer (some ⟨p, 0, none⟩), x1, x2, x3, .pointer (some ⟨M, 0, none⟩), x5, x6, x7, x8, x9, x10, x11, x12, x13, x14, x15, x16, x17, x18, x19, x20, x21, x22, x23, x24, x25, x26, x27, x28, x29, x30, x31, x32, x33, x34, x35, x36, x37, x38, x39, x40], []⟩ W0 := AnyTo.all (rs := [0, 4]) (by kernel_rfl) (by simp) (fun i hi => by
    simp only [List.mem_cons, List.not_mem_nil, or_false] at hi
    rcases hi with rfl | rfl
    · exact op_value g5_0 rfl (e5_0 rfl _) s10
    · exact op_value g5_4 rfl (e5_4 rfl m0 m1 m2) s01)
  exact s00
def q8_0 : Oper := { dst := some 29, op := Op.move (Operand.tmp 0), type := 30, pos := "pipe.go:73", after := #[], guard := none }
def q8_1 : Oper := { dst := some 30, op := Op.nilCheck (Operand.tmp 29), type := 0, pos := "pipe.go:73", after := #[{ on := 0, ground := Ground.data }], guard := none }
def q8_2 : Oper := { dst := some 31, op := Op.fieldAddr 58 (Operand.tmp 30) 0, type := 0, pos := "pipe.go:73", after := #[{ on := 1, ground := Ground.data }], guard := none }
def q8_3 : Oper := { dst := some 32, op := Op.load 56 (Operand.tmp 31), type := 56, pos := "pipe.go:73", after := #[{ on := 2, ground := Ground.data }], guard := none }
def q8_4 : Oper := { dst := some 33, op := Op.move (Operand.tmp 0), type := 30, pos := "pipe.go:73", after := #[], guard := none }
def q8_5 : Oper := { dst := some 34, op := Op.nilCheck (Operand.tmp 33), type := 0, pos := "pipe.go:73", after := #[{ on := 4, ground := Ground.data }], guard := none }
def q8_6 : Oper := { dst := some 35, op := Op.fieldAddr 58 (Operand.tmp 34) 0, type := 0, pos := "pipe.go:73", after := #[{ on := 5, ground := Ground.data }], guard := none }
def q8_7 : Oper := { dst := some 36, op := Op.load 56 (Operand.tmp 35), type := 56, pos := "pipe.go:73", after := #[{ on := 6, ground := Ground.data }], guard := none }
def q8_8 : Oper := { dst := some 37, op := Op.recv 56 (Operand.tmp 36) false, type := 29, pos := "pipe.go:73", after := #[{ on := 7, ground := Ground.data }], guard := none }
def q8_9 : Oper := { dst := none, op := Op.send (Operand.tmp 32) (Operand.tmp 37), type := 0, pos := "pipe.go:73", after := #[{ on := 3, ground := Ground.data }, { on := 8, ground := Ground.data }, { on := 8, ground := Ground.chain }], guard := none }
def ops8 : Array Oper := #[q8_0, q8_1, q8_2, q8_3, q8_4, q8_5, q8_6, q8_7, q8_8, q8_9]
theorem g8_0 : ops8[0]? = some q8_0 := rfl
theorem e8_0 {a : Act} {X : Value} (h : a.tmps[0]?.getD undef = X) (w : World) : (execOp a.eval q8_0).run Try.prog w = .ok (.value X) w := by simp [go_sem, execOp, q8_0, h]
theorem g8_1 : ops8[1]? = some q8_1 := rfl
theorem e8_1 {a : Act} {p : Nat} (h : a.tmps[29]?.getD undef = .pointer (some ⟨p, 0, none⟩)) (w : World) : (execOp a.eval q8_1).run Try.prog w = .ok (.value (.pointer (some ⟨p, 0, none⟩))) w := by simp [go_sem, execOp, q8_1, h]
theorem g8_2 : ops8[2]? = some q8_2 := rfl
theorem e8_2 {a : Act} {p : Nat} (h : a.tmps[30]?.getD undef = .pointer (some ⟨p, 0, none⟩)) (w : World) : (execOp a.eval q8_2).run Try.prog w = .ok (.value (.pointer (some ⟨p, 0, none⟩))) w := by simp [go_sem, execOp, q8_2, h]
theorem g8_3 : ops8[3]? = some q8_3 := rfl
theorem e8_3 {a : Act} {p c : Nat} (h : a.tmps[31]?.getD undef = .pointer (some ⟨p, 0, none⟩)) {w : World} (hp : w.cell? ⟨p, 0, none⟩ = some (.chan (some c))) : (execOp a.eval q8_3).run Try.prog w = .ok (.value (.chan (some c))) w := by simp [go_sem, execOp, q8_3, h, hp]
theorem g8_4 : ops8[4]? = some q8_4 := rfl
theorem e8_4 {a : Act} {X : Value} (h : a.tmps[0]?.getD undef = X) (w : World) : (execOp a.eval q8_4).run Try.prog w = .ok (.value X) w := by simp [go_sem, execOp, q8_4, h]
theorem g8_5 : ops8[5]? = some q8_5 := rfl
theorem e8_5 {a : Act} {p : Nat} (h : a.tmps[33]?.getD undef = .pointer (some ⟨p, 0, none⟩)) (w : World) : (execOp a.eval q8_5).run Try.prog w = .ok (.value (.pointer (some ⟨p, 0, none⟩))) w := by simp [go_sem, execOp, q8_5, h]
theorem g8_6 : ops8[6]? = some q8_6 := rfl
theorem e8_6 {a : Act} {p : Nat} (h : a.tmps[34]?.getD undef = .pointer (some ⟨p, 0, none⟩)) (w : World) : (execOp a.eval q8_6).run Try.prog w = .ok (.value (.pointer (some ⟨p, 0, none⟩))) w := by simp [go_sem, execOp, q8_6, h]
theorem g8_7 : ops8[7]? = some q8_7 := rfl
theorem e8_7 {a : Act} {p c : Nat} (h : a.tmps[35]?.getD undef = .pointer (some ⟨p, 0, none⟩)) {w : World} (hp : w.cell? ⟨p, 0, none⟩ = some (.chan (some c))) : (execOp a.eval q8_7).run Try.prog w = .ok (.value (.chan (some c))) w := by simp [go_sem, execOp, q8_7, h, hp]
theorem g8_8 : ops8[8]? = some q8_8 := rfl
theorem e8_8 {a : Act} {c cap s r : Nat} {buf : Array Value} {cl tm : Bool} (h : a.tmps[36]?.getD undef = .chan (some c)) {w : World} (hc : w.heap[c]? = some (.chan cap buf cl s r tm)) : (execOp a.eval q8_8).run Try.prog w = .ok (.comm #[rcase c zeroV] true (.recv false)) w := by
  have hz := zeroMsg w
  simp [go_sem, execOp, q8_8, h, hz, rcase]
theorem g8_9 : ops8[9]? = some q8_9 := rfl
theorem e8_9 {a : Act} {c cap s r : Nat} {buf : Array Value} {cl tm : Bool} {v : Value} (h : a.tmps[32]?.getD undef = .chan (some c)) (hv : a.tmps[37]?.getD undef = v) {w : World} (hc : w.heap[c]? = some (.chan cap buf cl s r tm)) : (execOp a.eval q8_9).run Try.prog w = .ok (.comm #[scase c v (.tuple #[])] true .send) w := by
  simp [go_sem, execOp, q8_9, h, hv, scase]
set_option maxHeartbeats 3200000 in
set_option maxRecDepth 1000000 in
/-- The first message is received and sent again. -/
theorem turned_region {Q : Exit → Act → World → Prop} {x1 x2 x3 x4 x5 x6 x7 x8 x9 x10 x11 x12 x13 x14 x15 x16 x17 x18 x19 x20 x21 x22 x23 x24 x25 x26 x27 x28 x29 x30 x31 x32 x33 x34 x35 x36 x37 x38 x39 x40 v : Value} {p c room s r : Nat} {L : List Value} {id : Nat} {w : World}
    (hp : w.cell? ⟨p, 0, none⟩ = some (.chan (some c))) (hne : p ≠ c)
    (hc : w.heap[c]? = some (.chan room (v :: L).toArray false s r false)) (hroom : L.toArray.size < room)
    (hQ : Q .normal ⟨#[.pointer (some ⟨p, 0, none⟩), x1, x2, x3, x4, x5, x6, x7, x8, x9, x10, x11, x12, x13, x14, x15, x16, x17, x18, x19, x20, x21, x22, x23, x24, x25, x26, x27, x28, .pointer (some ⟨p, 0, none⟩), .pointer (some ⟨p, 0, none⟩), .pointer (some ⟨p, 0, none⟩), .chan (some c), .pointer (some ⟨p, 0, none⟩), .pointer (some ⟨p, 0, none⟩), .pointer (some ⟨p, 0, none⟩), .chan (some c), v, x38, x39, x40], []⟩ (((w.drew).setChan c room L.toArray false s (r + 1) false).setChan c room (L.toArray.push v) false (s + 1) (r + 1) false)) :
    (Code.region id ops8 true).wp Try.prog Q ⟨#[.pointer (some ⟨p, 0, none⟩), x1, x2, x3, x4, x5, x6, x7, x8, x9, x10, x11, x12, x13, x14, x15, x16, x17, x18, x19, x20, x21, x22, x23, x24, x25, x26, x27, x28, x29, x30, x31, x32, x33, x34, x35, x36, x37, x38, x39, x40], []⟩ w := by
  refine region_any (by kernel_rfl) ?_
  change AnyTo _ _ _ _ _ _ _ w.drew
  replace hp : w.drew.cell? ⟨p, 0, none⟩ = some (.chan (some c)) := hp
  replace hc : w.drew.heap[c]? = some (.chan room (v :: L).toArray false s r false) := hc
  generalize w.drew = W0 at *
  have hc1 : (W0.setChan c room L.toArray false s (r + 1) false).heap[c]? = some (.chan room L.toArray false s (r + 1) false) := heap_setChan _ _ _ _ _ _ _ _ (lt_of_get hc)
  have hp1 : (W0.setChan c room L.toArray false s (r + 1) false).cell? ⟨p, 0, none⟩ = some (.chan (some c)) := by
    rw [World.cell?_of_block (w := W0) (a := ⟨p, 0, none⟩) ((Only.setChan W0 c room L.toArray false s (r + 1) false).block p (World.block_lt_of_cell? W0 _ hp) hne)]
    exact hp
  obtain ⟨W1, hW1⟩ : ∃ W, W0.setChan c room L.toArray false s (r + 1) false = W := ⟨_, rfl⟩
  rw [hW1] at hc1 hp1 hQ
  have s45 : AnyTo Try.prog .any ops8 Q 1 #[true, true, true, true, true, true, true, true, true, false] ⟨#[.pointer (some ⟨p, 0, none⟩), x1, x2, x3, x4, x5, x6, x7, x8, x9, x10, x11, x12, x13, x14, x15, x16, x17, x18, x19, x20, x21, x22, x23, x24, x25, x26, x27, x28, .pointer (some ⟨p, 0, none⟩), .pointer (some ⟨p, 0, none⟩), .pointer (some ⟨p, 0, none⟩), .chan (some c), .pointer (some ⟨p, 0, none⟩), .pointer (some ⟨p, 0, none⟩), .pointer (some ⟨p, 0, none⟩), .chan (some c), v, x38, x39, x40], []⟩ W1 := AnyTo.all (rs := [9]) (by kernel_rfl) (by simp) (fun i hi => by
    obtain rfl := List.mem_singleton.1 hi
    exact op_send g8_9 rfl (e8_9 rfl rfl hc1) hc1 hroom (AnyTo.last (by kernel_rfl) hQ))
  have s44 : AnyTo Try.prog .any ops8 Q 2 #[true, true, true, true, true, true, true, true, false, false] ⟨#[.pointer (some ⟨p, 0, none⟩), x1, x2, x3, x4, x5, x6, x7, x8, x9, x10, x11, x12, x13, x14, x15, x16, x17, x18, x19, x20, x21, x22, x23, x24, x25, x26, x27, x28, .pointer (some ⟨p, 0, none⟩), .pointer (some ⟨p, 0, none⟩), .pointer (some ⟨p, 0, none⟩), .chan (some c), .pointer (some ⟨p, 0, none⟩), .pointer (some ⟨p, 0, none⟩), .pointer (some ⟨p, 0, none⟩), .chan (some c), x37, x38, x39, x40], []⟩ W0 := AnyTo.all (rs := [8]) (by kernel_rfl) (by simp) (fun i hi => by
    obtain rfl := List.mem_singleton.1 hi
    exact got_list g8_8 rfl (e8_8 rfl hc) hc hW1 s45)
  have s43 : AnyTo Try.prog .any ops8 Q 3 #[true, true, true, true, true, true, true, false, false, false] ⟨#[.pointer (some ⟨p, 0, none⟩), x1, x2, x3, x4, x5, x6, x7, x8, x9, x10, x11, x12, x13, x14, x15, x16, x17, x18, x19, x20, x21, x22, x23, x24, x25, x26, x27, x28, .pointer (some ⟨p, 0, none⟩), .pointer (some ⟨p, 0, none⟩), .pointer (some ⟨p, 0, none⟩), .chan (some c), .pointer (some ⟨p, 0, none⟩), .pointer (some ⟨p, 0, none⟩), .pointer (some ⟨p, 0, none⟩), x36, x37, x38, x39, x40], []⟩ W0 := AnyTo.all (rs := [7]) (by kernel_rfl) (by simp) (fun i hi => by
    obtain rfl := List.mem_singleton.1 hi
    exact op_value g8_7 rfl (e8_7 rfl hp) s44)
  have s42 : AnyTo Try.prog .any ops8 Q 4 #[true, true, true, true, true, true, false, false, false, false] ⟨#[.pointer (some ⟨p, 0, none⟩), x1, x2, x3, x4, x5, x6, x7, x8, x9, x10, x11, x12, x13, x14, x15, x16, x17, x18, x19, x20, x21, x22, x23, x24, x25, x26, x27, x28, .pointer (some ⟨p, 0, none⟩), .pointer (some ⟨p, 0, none⟩), .pointer (some ⟨p, 0, none⟩), .chan (some c), .pointer (some ⟨p, 0, none⟩), .pointer (some ⟨p, 0, none⟩), x35, x36, x37, x38, x39, x40], []⟩ W0 := AnyTo.all (rs := [6]) (by kernel_rfl) (by simp) (fun i hi => by
    obtain rfl := List.mem_singleton.1 hi
    exact op_value g8_6 rfl (e8_6 rfl _) s43)
  have s41 : AnyTo Try.prog .any ops8 Q 5 #[true, true, true, true, true, false, false, false, false, false] ⟨#[.pointer (some ⟨p, 0, none⟩), x1, x2, x3, x4, x5, x6, x7, x8, x9, x10, x11, x12, x13, x14, x15, x16, x17, x18, x19, x20, x21, x22, x23, x24, x25, x26, x27, x28, .pointer (some ⟨p, 0, none⟩), .pointer (some ⟨p, 0, none⟩), .pointer (some ⟨p, 0, none⟩), .chan (some c), .pointer (some ⟨p, 0, none⟩), x34, x35, x36, x37, x38, x39, x40], []⟩ W0 := AnyTo.all (rs := [5]) (by kernel_rfl) (by simp) (fun i hi => by
    obtain rfl := List.mem_singleton.1 hi
    exact op_value g8_5 rfl (e8_5 rfl _) s42)
  have s40 : AnyTo Try.prog .any ops8 Q 6 #[true, true, true, true, false, false, false, false, false, false] ⟨#[.pointer (some ⟨p, 0, none⟩), x1, x2, x3, x4, x5, x6, x7, x8, x9, x10, x11, x12, x13, x14, x15, x16, x17, x18, x19, x20, x21, x22, x23, x24, x25, x26, x27, x28, .pointer (some ⟨p, 0, none⟩), .pointer (some ⟨p, 0, none⟩), .pointer (some ⟨p, 0, none⟩), .chan (some c), x33, x34, x35, x36, x37, x38, x39, x40], []⟩ W0 := AnyTo.all (rs := [4]) (by kernel_rfl) (by simp) (fun i hi => by
    obtain rfl := List.mem_singleton.1 hi
    exact op_value g8_4 rfl (e8_4 rfl _) s41)
  have s35 : AnyTo Try.prog .any ops8 Q 2 #[true, true, true, false, true, true, true, true, true, false] ⟨#[.pointer (some ⟨p, 0, none⟩), x1, x2, x3, x4, x5, x6, x7, x8, x9, x10, x11, x12, x13, x14, x15, x16, x17, x18, x19, x20, x21, x22, x23, x24, x25, x26, x27, x28, .pointer (some ⟨p, 0, none⟩), .pointer (some ⟨p, 0, none⟩), .pointer (some ⟨p, 0, none⟩), x32, .pointer (some ⟨p, 0, none⟩), .pointer (some ⟨p, 0, none⟩), .pointer (some ⟨p, 0, none⟩), .chan (some c), v, x38, x39, x40], []⟩ W1 := AnyTo.all (rs := [3]) (by kernel_rfl) (by simp) (fun i hi => by
    obtain rfl := List.mem_singleton.1 hi
    exact op_value g8_3 rfl (e8_3 rfl hp1) s45)
  have s34 : AnyTo Try.prog .any ops8 Q 3 #[true, true, true, false, true, true, true, true, false, false] ⟨#[.pointer (some ⟨p, 0, none⟩), x1, x2, x3, x4, x5, x6, x7, x8, x9, x10, x11, x12, x13, x14, x15, x16, x17, x18, x19, x20, x21, x22, x23, x24, x25, x26, x27, x28, .pointer (some ⟨p, 0, none⟩), .pointer (some ⟨p, 0, none⟩), .pointer (some ⟨p, 0, none⟩), x32, .pointer (some ⟨p, 0, none⟩), .pointer (some ⟨p, 0, none⟩), .pointer (some ⟨p, 0, none⟩), .chan (some c), x37, x38, x39, x40], []⟩ W0 := AnyTo.all (rs := [3, 8]) (by kernel_rfl) (by simp) (fun i hi => by
    simp only [List.mem_cons, List.not_mem_nil, or_false] at hi
    rcases hi with rfl | rfl
    · exact op_value g8_3 rfl (e8_3 rfl hp) s44
    · exact got_list g8_8 rfl (e8_8 rfl hc) hc hW1 s35)
  have s33 : AnyTo Try.prog .any ops8 Q 4 #[true, true, true, false, true, true, true, false, false, false] ⟨#[.pointer (some ⟨p, 0, none⟩), x1, x2, x3, x4, x5, x6, x7, x8, x9, x10, x11, x12, x13, x14, x15, x16, x17, x18, x19, x20, x21, x22, x23, x24, x25, x26, x27, x28, .pointer (some ⟨p, 0, none⟩), .pointer (some ⟨p, 0, none⟩), .pointer (some ⟨p, 0, none⟩), x32, .pointer (some ⟨p, 0, none⟩), .pointer (some ⟨p, 0, none⟩), .pointer (some ⟨p, 0, none⟩), x36, x37, x38, x39, x40], []⟩ W0 := AnyTo.all (rs := [3, 7]) (by kernel_rfl) (by simp) (fun i hi => by
    simp only [List.mem_cons, List.not_mem_nil, or_false] at hi
    rcases hi with rfl | rfl
    · exact op_value g8_3 rfl (e8_3 rfl hp) s43
    · exact op_value g8_7 rfl (e8_7 rfl hp) s34)
  have s32 : AnyTo Try.prog .any ops8 Q 5 #[true, true, true, false, true, true, false, false, false, false] ⟨#[.pointer (some ⟨p, 0, none⟩), x1, x2, x3, x4, x5, x6, x7, x8, x9, x10, x11, x12, x13, x14, x15, x16, x17, x18, x19, x20, x21, x22, x23, x24, x25, x26, x27, x28, .pointer (some ⟨p, 0, none⟩), .pointer (some ⟨p, 0, none⟩), .pointer (some ⟨p, 0, none⟩), x32, .pointer (some ⟨p, 0, none⟩), .pointer (some ⟨p, 0, none⟩), x35, x36, x37, x38, x39, x40], []⟩ W0 := AnyTo.all (rs := [3, 6]) (by kernel_rfl) (by simp) (fun i hi => by
    simp only [List.mem_cons, List.not_mem_nil, or_false] at hi
    rcases hi with rfl | rfl
    · exact op_value g8_3 rfl (e8_3 rfl hp) s42
    · exact op_value g8_6 rfl (e8_6 rfl _) s33)
  have s31 : AnyTo Try.prog .any ops8 Q 6 #[true, true, true, false, true, false, false, false, false, false] ⟨#[.pointer (some ⟨p, 0, none⟩), x1, x2, x3, x4, x5, x6, x7, x8, x9, x10, x11, x12, x13, x14, x15, x16, x17, x18, x19, x20, x21, x22, x23, x24, x25, x26, x27, x28, .pointer (some ⟨p, 0, none⟩), .pointer (some ⟨p, 0, none⟩), .pointer (some ⟨p, 0, none⟩), x32, .pointer (some ⟨p, 0, none⟩), x34, x35, x36, x37, x38, x39, x40], []⟩ W0 := AnyTo.all (rs := [3, 5]) (by kernel_rfl) (by simp) (fun i hi => by
    simp only [List.mem_cons, List.not_mem_nil, or_false] at hi
    rcases hi with rfl | rfl
    · exact op_value g8_3 rfl (e8_3 rfl hp) s41
    · exact op_value g8_5 rfl (e8_5 rfl _) s32)
  have s30 : AnyTo Try.prog .any ops8 Q 7 #[true, true, true, false, false, false, false, false, false, false] ⟨#[.pointer (some ⟨p, 0, none⟩), x1, x2, x3, x4, x5, x6, x7, x8, x9, x10, x11, x12, x13, x14, x15, x16, x17, x18, x19, x20, x21, x22, x23, x24, x25, x26, x27, x28, .pointer (some ⟨p, 0, none⟩), .pointer (some ⟨p, 0, none⟩), .pointer (some ⟨p, 0, none⟩), x32, x33, x34, x35, x36, x37, x38, x39, x40], []⟩ W0 := AnyTo.all (rs := [3, 4]) (by kernel_rfl) (by simp) (fun i hi => by
    simp only [List.mem_cons, List.not_mem_nil, or_false] at hi
    rcases hi with rfl | rfl
    · exact op_value g8_3 rfl (e8_3 rfl hp) s40
    · exact op_value g8_4 rfl (e8_4 rfl _) s31)
  have s25 : AnyTo Try.prog .any ops8 Q 3 #[true, true, false, false, true, true, true, true, true, false] ⟨#[.pointer (some ⟨p, 0, none⟩), x1, x2, x3, x4, x5, x6, x7, x8, x9, x10, x11, x12, x13, x14, x15, x16, x17, x18, x19, x20, x21, x22, x23, x24, x25, x26, x27, x28, .pointer (some ⟨p, 0, none⟩), .pointer (some ⟨p, 0, none⟩), x31, x32, .pointer (some ⟨p, 0, none⟩), .pointer (some ⟨p, 0, none⟩), .pointer (some ⟨p, 0, none⟩), .chan (some c), v, x38, x39, x40], []⟩ W1 := AnyTo.all (rs := [2]) (by kernel_rfl) (by simp) (fun i hi => by
    obtain rfl := List.mem_singleton.1 hi
    exact op_value g8_2 rfl (e8_2 rfl _) s35)
  have s24 : AnyTo Try.prog .any ops8 Q 4 #[true, true, false, false, true, true, true, true, false, false] ⟨#[.pointer (some ⟨p, 0, none⟩), x1, x2, x3, x4, x5, x6, x7, x8, x9, x10, x11, x12, x13, x14, x15, x16, x17, x18, x19, x20, x21, x22, x23, x24, x25, x26, x27, x28, .pointer (some ⟨p, 0, none⟩), .pointer (some ⟨p, 0, none⟩), x31, x32, .pointer (some ⟨p, 0, none⟩), .pointer (some ⟨p, 0, none⟩), .pointer (some ⟨p, 0, none⟩), .chan (some c), x37, x38, x39, x40], []⟩ W0 := AnyTo.all (rs := [2, 8]) (by kernel_rfl) (by simp) (fun i hi => by
    simp only [List.mem_cons, List.not_mem_nil, or_false] at hi
    rcases hi with rfl | rfl
    · exact op_value g8_2 rfl (e8_2 rfl _) s34
    · exact got_list g8_8 rfl (e8_8 rfl hc) hc hW1 s25)
  have s23 : AnyTo Try.prog .any ops8 Q 5 #[true, true, false, false, true, true, true, false, false, false] ⟨#[.pointer (some ⟨p, 0, none⟩), x1, x2, x3, x4, x5, x6, x7, x8, x9, x10, x11, x12, x13, x14, x15, x16, x17, x18, x19, x20, x21, x22, x23, x24, x25, x26, x27, x28, .pointer (some ⟨p, 0, none⟩), .pointer (some ⟨p, 0, none⟩), x31, x32, .pointer (some ⟨p, 0, none⟩), .pointer (some ⟨p, 0, none⟩), .pointer (some ⟨p, 0, none⟩), x36, x37, x38, x39, x40], []⟩ W0 := AnyTo.all (rs := [2, 7]) (by kernel_rfl) (by simp) (fun i hi => by
    simp only [List.mem_cons, List.not_mem_nil, or_false] at hi
    rcases hi with rfl | rfl
    · exact op_value g8_2 rfl (e8_2 rfl _) s33
    · exact op_value g8_7 rfl (e8_7 rfl hp) s24)
  have s22 : AnyTo Try.prog .any ops8 Q 6 #[true, true, false, false, true, true, false, false, false, false] ⟨#[.pointer (some ⟨p, 0, none⟩), x1, x2, x3, x4, x5, x6, x7, x8, x9, x10, x11, x12, x13, x14, x15, x16, x17, x18, x19, x20, x21, x22, x23, x24, x25, x26, x27, x28, .pointer (some ⟨p, 0, none⟩), .pointer (some ⟨p, 0, none⟩), x31, x32, .pointer (some ⟨p, 0, none⟩), .pointer (some ⟨p, 0, none⟩), x35, x36, x37, x38, x39, x40], []⟩ W0 := AnyTo.all (rs := [2, 6]) (by kernel_rfl) (by simp) (fun i hi => by
    simp only [List.mem_cons, List.not_mem_nil, or_false] at hi
    rcases hi with rfl | rfl
    · exact op_value g8_2 rfl (e8_2 rfl _) s32
    · exact op_value g8_6 rfl (e8_6 rfl _) s23)
  have s21 : AnyTo Try.prog .any ops8 Q 7 #[true, true, false, false, true, false, false, false, false, false] ⟨#[.pointer (some ⟨p, 0, none⟩), x1, x2, x3, x4, x5, x6, x7, x8, x9, x10, x11, x12, x13, x14, x15, x16, x17, x18, x19, x20, x21, x22, x23, x24, x25, x26, x27, x28, .pointer (some ⟨p, 0, none⟩), .pointer (some ⟨p, 0, none⟩), x31, x32, .pointer (some ⟨p, 0, none⟩), x34, x35, x36, x37, x38, x39, x40], []⟩ W0 := AnyTo.all (rs := [2, 5]) (by kernel_rfl) (by simp) (fun i hi => by
    simp only [List.mem_cons, List.not_mem_nil, or_false] at hi
    rcases hi with rfl | rfl
    · exact op_value g8_2 rfl (e8_2 rfl _) s31
    · exact op_value g8_5 rfl (e8_5 rfl _) s22)
  have s20 : AnyTo Try.prog .any ops8 Q 8 #[true, true, false, false, false, false, false, false, false, false] ⟨#[.pointer (some ⟨p, 0, none⟩), x1, x2, x3, x4, x5, x6, x7, x8, x9, x10, x11, x12, x13, x14, x15, x16, x17, x18, x19, x20, x21, x22, x23, x24, x25, x26, x27, x28, .pointer (some ⟨p, 0, none⟩), .pointer (some ⟨p, 0, none⟩), x31, x32, x33, x34, x35, x36, x37, x38, x39, x40], []⟩ W0 := AnyTo.all (rs := [2, 4]) (by kernel_rfl) (by simp) (fun i hi => by
    simp only [List.mem_cons, List.not_mem_nil, or_false] at hi
    rcases hi with rfl | rfl
    · exact op_value g8_2 rfl (e8_2 rfl _) s30
    · exact op_value g8_4 rfl (e8_4 rfl _) s21)
  have s15 : AnyTo Try.prog .any ops8 Q 4 #[true, false, false, false, true, true, true, true, true, false] ⟨#[.pointer (some ⟨p, 0, none⟩), x1, x2, x3, x4, x5, x6, x7, x8, x9, x10, x11, x12, x13, x14, x15, x16, x17, x18, x19, x20, x21, x22, x23, x24, x25, x26, x27, x28, .pointer (some ⟨p, 0, none⟩), x30, x31, x32, .pointer (some ⟨p, 0, none⟩), .pointer (some ⟨p, 0, none⟩), .pointer (some ⟨p, 0, none⟩), .chan (some c), v, x38, x39, x40], []⟩ W1 := AnyTo.all (rs := [1]) (by kernel_rfl) (by simp) (fun i hi => by
    obtain rfl := List.mem_singleton.1 hi
    exact op_value g8_1 rfl (e8_1 rfl _) s25)
  have s14 : AnyTo Try.prog .any ops8 Q 5 #[true, false, false, false, true, true, true, true, false, false] ⟨#[.pointer (some ⟨p, 0, none⟩), x1, x2, x3, x4, x5, x6, x7, x8, x9, x10, x11, x12, x13, x14, x15, x16, x17, x18, x19, x20, x21, x22, x23, x24, x25, x26, x27, x28, .pointer (some ⟨p, 0, none⟩), x30, x31, x32, .pointer (some ⟨p, 0, none⟩), .pointer (some ⟨p, 0, none⟩), .pointer (some ⟨p, 0, none⟩), .chan (some c), x37, x38, x39, x40], []⟩ W0 := AnyTo.all (rs := [1, 8]) (by kernel_rfl) (by simp) (fun i hi => by
    simp only [List.mem_cons, List.not_mem_nil, or_false] at hi
    rcases hi with rfl | rfl
    · exact op_value g8_1 rfl (e8_1 rfl _) s24
    · exact got_list g8_8 rfl (e8_8 rfl hc) hc hW1 s15)
  have s13 : AnyTo Try.prog .any ops8 Q 6 #[true, false, false, false, true, true, true, false, false, false] ⟨#[.pointer (some ⟨p, 0, none⟩), x1, x2, x3, x4, x5, x6, x7, x8, x9, x10, x11, x12, x13, x14, x15, x16, x17, x18, x19, x20, x21, x22, x23, x24, x25, x26, x27, x28, .pointer (some ⟨p, 0, none⟩), x30, x31, x32, .pointer (some ⟨p, 0, none⟩), .pointer (some ⟨p, 0, none⟩), .pointer (some ⟨p, 0, none⟩), x36, x37, x38, x39, x40], []⟩ W0 := AnyTo.all (rs := [1, 7]) (by kernel_rfl) (by simp) (fun i hi => by
    simp only [List.mem_cons, List.not_mem_nil, or_false] at hi
    rcases hi with rfl | rfl
    · exact op_value g8_1 rfl (e8_1 rfl _) s23
    · exact op_value g8_7 rfl (e8_7 rfl hp) s14)
  have s12 : AnyTo Try.prog .any ops8 Q 7 #[true, false, false, false, true, true, false, false, false, false] ⟨#[.pointer (some ⟨p, 0, none⟩), x1, x2, x3, x4, x5, x6, x7, x8, x9, x10, x11, x12, x13, x14, x15, x16, x17, x18, x19, x20, x21, x22, x23, x24, x25, x26, x27, x28, .pointer (some ⟨p, 0, none⟩), x30, x31, x32, .pointer (some ⟨p, 0, none⟩), .pointer (some ⟨p, 0, none⟩), x35, x36, x37, x38, x39, x40], []⟩ W0 := AnyTo.all (rs := [1, 6]) (by kernel_rfl) (by simp) (fun i hi => by
    simp only [List.mem_cons, List.not_mem_nil, or_false] at hi
    rcases hi with rfl | rfl
    · exact op_value g8_1 rfl (e8_1 rfl _) s22
    · exact op_value g8_6 rfl (e8_6 rfl _) s13)
  have s11 : AnyTo Try.prog .any ops8 Q 8 #[true, false, false, false, true, false, false, false, false, false] ⟨#[.pointer (some ⟨p, 0, none⟩), x1, x2, x3, x4, x5, x6, x7, x8, x9, x10, x11, x12, x13, x14, x15, x16, x17, x18, x19, x20, x21, x22, x23, x24, x25, x26, x27, x28, .pointer (some ⟨p, 0, none⟩), x30, x31, x32, .pointer (some ⟨p, 0, none⟩), x34, x35, x36, x37, x38, x39, x40], []⟩ W0 := AnyTo.all (rs := [1, 5]) (by kernel_rfl) (by simp) (fun i hi => by
    simp only [List.mem_cons, List.not_mem_nil, or_false] at hi
    rcases hi with rfl | rfl
    · exact op_value g8_1 rfl (e8_1 rfl _) s21
    · exact op_value g8_5 rfl (e8_5 rfl _) s12)
  have s10 : AnyTo Try.prog .any ops8 Q 9 #[true, false, false, false, false, false, false, false, false, false] ⟨#[.pointer (some ⟨p, 0, none⟩), x1, x2, x3, x4, x5, x6, x7, x8, x9, x10, x11, x12, x13, x14, x15, x16, x17, x18, x19, x20, x21, x22, x23, x24, x25, x26, x27, x28, .pointer (some ⟨p, 0, none⟩), x30, x31, x32, x33, x34, x35, x36, x37, x38, x39, x40], []⟩ W0 := AnyTo.all (rs := [1, 4]) (by kernel_rfl) (by simp) (fun i hi => by
    simp only [List.mem_cons, List.not_mem_nil, or_false] at hi
    rcases hi with rfl | rfl
    · exact op_value g8_1 rfl (e8_1 rfl _) s20
    · exact op_value g8_4 rfl (e8_4 rfl _) s11)
  have s05 : AnyTo Try.prog .any ops8 Q 5 #[false, false, false, false, true, true, true, true, true, false] ⟨#[.pointer (some ⟨p, 0, none⟩), x1, x2, x3, x4, x5, x6, x7, x8, x9, x10, x11, x12, x13, x14, x15, x16, x17, x18, x19, x20, x21, x22, x23, x24, x25, x26, x27, x28, x29, x30, x31, x32, .pointer (some ⟨p, 0, none⟩), .pointer (some ⟨p, 0, none⟩), .pointer (some ⟨p, 0, none⟩), .chan (some c), v, x38, x39, x40], []⟩ W1 := AnyTo.all (rs := [0]) (by kernel_rfl) (by simp) (fun i hi => by
    obtain rfl := List.mem_singleton.1 hi
    exact op_value g8_0 rfl (e8_0 rfl _) s15)
  have s04 : AnyTo Try.prog .any ops8 Q 6 #[false, false, false, false, true, true, true, true, false, false] ⟨#[.pointer (some ⟨p, 0, none⟩), x1, x2, x3, x4, x5, x6, x7, x8, x9, x10, x11, x12, x13, x14, x15, x16, x17, x18, x19, x20, x21, x22, x23, x24, x25, x26, x27, x28, x29, x30, x31, x32, .pointer (some ⟨p, 0, none⟩), .pointer (some ⟨p, 0, none⟩), .pointer (some ⟨p, 0, none⟩), .chan (some c), x37, x38, x39, x40], []⟩ W0 := AnyTo.all (rs := [0, 8]) (by kernel_rfl) (by simp) (fun i hi => by
    simp only [List.mem_cons, List.not_mem_nil, or_false] at hi
    rcases hi with rfl | rfl
    · exact op_value g8_0 rfl (e8_0 rfl _) s14
    · exact got_list g8_8 rfl (e8_8 rfl hc) hc hW1 s05)
  have s03 : AnyTo Try.prog .any ops8 Q 7 #[false, false, false, false, true, true, true, false, false, false] ⟨#[.pointer (some ⟨p, 0, none⟩), x1, x2, x3, x4, x5, x6, x7, x8, x9, x10, x11, x12, x13, x14, x15, x16, x17, x18, x19, x20, x21, x22, x23, x24, x25, x26, x27, x28, x29, x30, x31, x32, .pointer (some ⟨p, 0, none⟩), .pointer (some ⟨p, 0, none⟩), .pointer (some ⟨p, 0, none⟩), x36, x37, x38, x39, x40], []⟩ W0 := AnyTo.all (rs := [0, 7]) (by kernel_rfl) (by simp) (fun i hi => by
    simp only [List.mem_cons, List.not_mem_nil, or_false] at hi
    rcases hi with rfl | rfl
    · exact op_value g8_0 rfl (e8_0 rfl _) s13
    · exact op_value g8_7 rfl (e8_7 rfl hp) s04)
  have s02 : AnyTo Try.prog .any ops8 Q 8 #[false, false, false, false, true, true, false, false, false, false] ⟨#[.pointer (some ⟨p, 0, none⟩), x1, x2, x3, x4, x5, x6, x7, x8, x9, x10, x11, x12, x13, x14, x15, x16, x17, x18, x19, x20, x21, x22, x23, x24, x25, x26, x27, x28, x29, x30, x31, x32, .pointer (some ⟨p, 0, none⟩), .pointer (some ⟨p, 0, none⟩), x35, x36, x37, x38, x39, x40], []⟩ W0 := AnyTo.all (rs := [0, 6]) (by kernel_rfl) (by simp) (fun i hi => by
    simp only [List.mem_cons, List.not_mem_nil, or_false] at hi
    rcases hi with rfl | rfl
    · exact op_value g8_0 rfl (e8_0 rfl _) s12
    · exact op_value g8_6 rfl (e8_6 rfl _) s03)
  have s01 : AnyTo Try.prog .any ops8 Q 9 #[false, false, false, false, true, false, false, false, false, false] ⟨#[.pointer (some ⟨p, 0, none⟩), x1, x2, x3, x4, x5, x6, x7, x8, x9, x10, x11, x12, x13, x14, x15, x16, x17, x18, x19, x20, x21, x22, x23, x24, x25, x26, x27, x28, x29, x30, x31, x32, .pointer (some ⟨p, 0, none⟩), x34, x35, x36, x37, x38, x39, x40], []⟩ W0 := AnyTo.all (rs := [0, 5]) (by kernel_rfl) (by simp) (fun i hi => by
    simp only [List.mem_cons, List.not_mem_nil, or_false] at hi
    rcases hi with rfl | rfl
    · exact op_value g8_0 rfl (e8_0 rfl _) s11
    · exact op_value g8_5 rfl (e8_5 rfl _) s02)
  have s00 : AnyTo Try.prog .any ops8 Q 10 #[false, false, false, false, false, false, false, false, false, false] ⟨#[.pointer (some ⟨p, 0, none⟩), x1, x2, x3, x4, x5, x6, x7, x8, x9, x10, x11, x12, x13, x14, x15, x16, x17, x18, x19, x20, x21, x22, x23, x24, x25, x26, x27, x28, x29, x30, x31, x32, x33, x34, x35, x36, x37, x38, x39, x40], []⟩ W0 := AnyTo.all (rs := [0, 4]) (by kernel_rfl) (by simp) (fun i hi => by
    simp only [List.mem_cons, List.not_mem_nil, or_false] at hi
    rcases hi with rfl | rfl
    · exact op_value g8_0 rfl (e8_0 rfl _) s10
    · exact op_value g8_4 rfl (e8_4 rfl _) s01)
  exact s00
end Go.Proofs.Ytknldabnkaecdaa.pip

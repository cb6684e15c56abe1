/- Plain facts on jobs: what may be, why not, who reads. No program's run in this file. Nodes in memory. What a kind asks .. -/
import Derived.Test.YtepdecnegihhhaaGreatDoorMKd
import Derived.Test.YtepdecnegihhhaaGreatDoorMNm
import Derived.Test.YtepdecnegihhhaaGreatDoorMEx
import Derived.Test.YtepdecnegihhhaaGreatDoorMEu
import Derived.Test.YtepdecnegihhhaaGreatDoorMKe
import Derived.Deep.LoopGhost
import Derived.Deep.DeepCutAuto
set_option linter.unusedSimpArgs false
set_option linter.unusedVariables false
namespace Go.Proofs.YtepdecnegihhhaaGreatDoor.jb
section
open nam exp
structure Nd where
 uid : ByteArray
 kind : Nat
 ins : List Int
 x : Ex
 n : Int
structure Ask where
 few : Int
 many : Int
 ty : Nat
 acc : Bool
 least : Int
 most : Int
 keeps : Bool
def ask0 : Ask := ⟨0, 0, 0, false, 0, 0, false⟩
def askL : List Ask := [ask0, ask0, ⟨1, 1, 1, false, 0, 0, false⟩, ⟨1, 1, 2, false, 0, 0, false⟩, ⟨1, 1, 1, false, 0, 0, false⟩, ⟨1, 1, 1, false, 0, 0, false⟩, ⟨1, 1, 1, true, 0, 0, true⟩, ⟨1, 1, 0, false, 1, 16, true⟩, ⟨2, 3, 0, false, 0, 0, false⟩, ⟨1, 1, 0, false, 0, 0, false⟩]
def askR (k : Nat) : Ask := askL.getD k ask0
def kindOk (k : Nat) : Bool := decide (1 ≤ k ∧ k ≤ 9)
def firstI {α : Type} (f : α → Bool) : List α → Nat → Int
 | [], _ => -1
 | x :: l, k => if f x then (k : Int) else firstI f l (k + 1)
def placesI {α : Type} (f : α → Bool) : List α → Nat → List Int
 | [], _ => []
 | x :: l, k => if f x then (k : Int) :: placesI f l (k + 1) else placesI f l (k + 1)
theorem firstI_lt {α : Type} {f : α → Bool} : ∀ {l : List α} {k : Nat}, (0 ≤ firstI f l k ↔ ∃ x ∈ l, f x = true)
 | [], k => by simp [firstI]
 | x :: l, k => by
  rw [firstI]
  by_cases h : f x = true
  · rw [if_pos h]
    exact ⟨fun _ => ⟨x, by simp, h⟩, fun _ => by omega⟩
  · rw [if_neg h, firstI_lt (l := l)]
    constructor
    · rintro ⟨y, h1, h2⟩; exact ⟨y, List.mem_cons_of_mem _ h1, h2⟩
    · rintro ⟨y, h1, h2⟩
      rcases List.mem_cons.1 h1 with rfl | h3
      · exact absurd h2 h
      · exact ⟨y, h3, h2⟩
theorem firstI_drop {α : Type} {f : α → Bool} {l : List α} {k j : Nat} (h : j < l.length) : firstI f (l.drop j) k = if f l[j] then (k : Int) else firstI f (l.drop (j + 1)) (k + 1) := by
 rw [List.drop_eq_getElem_cons h, firstI]
theorem placesI_drop {α : Type} {f : α → Bool} {l : List α} {k j : Nat} (h : j < l.length) : placesI f (l.drop j) k = if f l[j] then (k : Int) :: placesI f (l.drop (j + 1)) (k + 1) else placesI f (l.drop (j + 1)) (k + 1) := by
 rw [List.drop_eq_getElem_cons h, placesI]
theorem placesI_len {α : Type} {f : α → Bool} : ∀ {l : List α} {k : Nat}, (placesI f l k).length = (l.filter f).length
 | [], _ => rfl
 | x :: l, k => by
  rw [placesI]
  by_cases h : f x = true
  · rw [if_pos h, List.filter_cons_of_pos h, List.length_cons, List.length_cons, placesI_len]
  · rw [if_neg h, List.filter_cons_of_neg h, placesI_len]
def leave (s : Nat) (r : Int) : Int := if r < 0 then r - 1 else max (-1) (r - s)
def roomN (l : List Nd) (r : Int) : Int := l.foldl (fun r nd => leave nd.x.size r) r
theorem leave_neg {s : Nat} {r : Int} (h : r < 0) : leave s r < 0 := by unfold leave; rw [if_pos h]; omega
theorem leave_pos {s : Nat} {r : Int} (h : 0 ≤ leave s r) : 0 ≤ r ∧ (s : Int) ≤ r ∧ leave s r = r - s := by
 unfold leave at h ⊢
 by_cases hr : r < 0
 · rw [if_pos hr] at h; omega
 · rw [if_neg hr] at h ⊢
   omega
theorem leave_bound {s : Nat} {r m : Int} (h1 : -m ≤ r) (hm : 0 ≤ m) (hr : r ≤ 1000) : -(m + 1) ≤ leave s r ∧ leave s r ≤ 1000 := by
 unfold leave
 by_cases h : r < 0
 · rw [if_pos h]; omega
 · rw [if_neg h]; omega
theorem room_cons (nd : Nd) (l : List Nd) (r : Int) : roomN (nd :: l) r = roomN l (leave nd.x.size r) := rfl
theorem room_neg : ∀ {l : List Nd} {r : Int}, r < 0 → roomN l r < 0
 | [], r, h => h
 | nd :: l, r, h => room_neg (l := l) (leave_neg h)
theorem room_mem : ∀ {l : List Nd} {r : Int}, 0 ≤ roomN l r → ∀ nd ∈ l, (nd.x.size : Int) ≤ r
 | [], _, _, nd, h => by cases h
 | m :: l, r, h, nd, hm => by
  rw [room_cons] at h
  have h0 : 0 ≤ leave m.x.size r := by
   by_cases hn : leave m.x.size r < 0
   · have := room_neg (l := l) hn; omega
   · omega
  obtain ⟨h1, h2, h3⟩ := leave_pos h0
  rcases List.mem_cons.1 hm with rfl | h4
  · exact h2
  · have := room_mem h nd h4
    omega
def boundedB (par : Int) (l : List Nd) : Bool := decide (1 ≤ par ∧ par ≤ 4 ∧ 2 ≤ l.length ∧ l.length ≤ 12) && decide (0 ≤ roomN l 1000)
def badIn (l : List Int) (p : Nat) (i : Int) : Bool := decide (i < 0) || decide ((p : Int) ≤ i) || decide (1 < (l.filter (fun j => decide (j = i))).length)
def takesInB (a : Ask) (l : List Int) (p : Nat) : Bool := decide (a.few ≤ (l.length : Int) ∧ (l.length : Int) ≤ a.many) && l.all (fun i => !badIn l p i)
def isZ (x : Ex) : Bool := decide (x.op = 0) && decide (x.n = 0) && x.args.isEmpty
theorem isZ_iff {x : Ex} : isZ x = true ↔ x = Ex.zero := by
 unfold isZ
 constructor
 · intro h
   rw [Bool.and_eq_true, Bool.and_eq_true, decide_eq_true_eq, decide_eq_true_eq, List.isEmpty_iff] at h
   exact Ex.ext' h.1.1 h.1.2 h.2
 · intro h; rw [h]; rfl
def takesXB (a : Ask) (x : Ex) : Bool := if a.ty = 0 then isZ x else decide (kindO x a.acc = (a.ty, 0))
def mayB (nd : Nd) (p : Nat) : Bool := kindOk nd.kind && nameB nd.uid && takesInB (askR nd.kind) nd.ins p && takesXB (askR nd.kind) nd.x && decide ((askR nd.kind).least ≤ nd.n) && decide (nd.n ≤ (askR nd.kind).most)
theorem mayB_iff {nd : Nd} {p : Nat} : mayB nd p = true ↔ kindOk nd.kind = true ∧ nameB nd.uid = true ∧ takesInB (askR nd.kind) nd.ins p = true ∧ takesXB (askR nd.kind) nd.x = true ∧ (askR nd.kind).least ≤ nd.n ∧ nd.n ≤ (askR nd.kind).most := by
 unfold mayB; simp [and_assoc]
theorem takesIn_mem {a : Ask} {l : List Int} {p : Nat} (h : takesInB a l p = true) {i : Int} (hi : i ∈ l) : 0 ≤ i ∧ i < p := by
 unfold takesInB at h
 rw [Bool.and_eq_true] at h
 have := List.all_eq_true.1 h.2 i hi
 unfold badIn at this
 simp at this
 omega
def named (uid : ByteArray) (nd : Nd) : Bool := decide (nd.uid = uid)
def findI (l : List Nd) (uid : ByteArray) : Int := firstI (named uid) l 0
def reads (p : Int) (nd : Nd) : Bool := decide (p ∈ nd.ins)
def readersI (l : List Nd) (p : Int) : List Int := placesI (reads p) l 0
def flat (nd : Nd) : Bool := decide (nd.kind = 4)
def flatsN (l : List Nd) : Nat := (l.filter flat).length
def firstErr (f : Nat → Int) : Nat → Nat → Int × Int
 | 0, _ => (0, 0)
 | n + 1, k => if f k ≠ 0 then ((k : Int), f k) else firstErr f n (k + 1)
def errAt (l : List Nd) (k : Nat) : Int := match l[k]? with
 | none => 0
 | some nd => if mayB nd k = false then 120 else if 0 ≤ findI (l.take k) nd.uid then 121 else 0
def sumAt (ws : List Int) (l : List Int) : Int := l.foldl (fun s i => s + ws.getD i.toNat 0) 0
def wayOf (nd : Nd) (ws : List Int) : Int := if nd.kind = 1 then 1 else if nd.kind = 4 then sumAt ws nd.ins * 4 else sumAt ws nd.ins
def waysL (l : List Nd) : Nat → List Int
 | 0 => []
 | k + 1 => waysL l k ++ [match l[k]? with
  | none => 0
  | some nd => wayOf nd (waysL l k)]
theorem waysL_len (l : List Nd) : ∀ k, (waysL l k).length = k
 | 0 => rfl
 | k + 1 => by rw [waysL, List.length_append, waysL_len l k]; rfl
theorem waysL_succ {l : List Nd} {k : Nat} (h : k < l.length) : waysL l (k + 1) = waysL l k ++ [wayOf l[k] (waysL l k)] := by
 rw [waysL, List.getElem?_eq_getElem h]
def shapeB (l : List Nd) (k : Nat) (nd : Nd) : Bool :=
 (decide (nd.kind = 1) != decide (k = 0)) || (decide (nd.kind = 9) != decide (k + 1 = l.length)) ||
  (!decide (k + 1 = l.length) && !(decide (1 ≤ (readersI l k).length) && decide ((readersI l k).length ≤ 3))) ||
  (decide (nd.kind = 4) && decide (2 ≤ flatsN (l.take k))) || decide (64 < wayOf nd (waysL l k))
def shapeAt (l : List Nd) (k : Nat) : Int := match l[k]? with
 | none => 0
 | some nd => if shapeB l k nd then 122 else 0
def aloneO (l : List Nd) : Int × Int := firstErr (errAt l) l.length 0
def togetherO (l : List Nd) : Int × Int := firstErr (shapeAt l) l.length 0
def mayO (par : Int) (l : List Nd) : Int × Int := if boundedB par l = false then (0, 2) else if (aloneO l).2 ≠ 0 then aloneO l else togetherO l
theorem firstErr_ok {f : Nat → Int} : ∀ {n k : Nat}, (firstErr f n k).2 = 0 → ∀ j, k ≤ j → j < k + n → f j = 0
 | 0, k, h, j, h1, h2 => by omega
 | n + 1, k, h, j, h1, h2 => by
  rw [firstErr] at h
  by_cases h0 : f k = 0
  · rw [if_neg (by simp [h0])] at h
    by_cases hj : j = k
    · rw [hj]; exact h0
    · exact firstErr_ok h j (by omega) (by omega)
  · rw [if_pos h0] at h; exact absurd h h0
theorem firstErr_step {f : Nat → Int} {n k : Nat} (h : f k = 0) : firstErr f (n + 1) k = firstErr f n (k + 1) := by rw [firstErr, if_neg (by simp [h])]
theorem firstErr_stop {f : Nat → Int} {n k : Nat} (h : f k ≠ 0) : firstErr f (n + 1) k = ((k : Int), f k) := by rw [firstErr, if_pos h]
theorem alone_ok {l : List Nd} (h : (aloneO l).2 = 0) {k : Nat} (hk : k < l.length) : mayB l[k] k = true := by
 have h1 := firstErr_ok h k (Nat.zero_le _) (by omega)
 unfold errAt at h1
 rw [List.getElem?_eq_getElem hk] at h1
 cases hm : mayB l[k] k with
 | true => rfl
 | false => simp [hm] at h1
theorem sum_cons (ws : List Int) (i : Int) (l : List Int) (s : Int) : (i :: l).foldl (fun s i => s + ws.getD i.toNat 0) s = l.foldl (fun s i => s + ws.getD i.toNat 0) (s + ws.getD i.toNat 0) := rfl
theorem sum_bound {ws : List Int} (hw : ∀ x ∈ ws, 0 ≤ x ∧ x ≤ 64) : ∀ (l : List Int) (s : Int), s ≤ l.foldl (fun s i => s + ws.getD i.toNat 0) s ∧ l.foldl (fun s i => s + ws.getD i.toNat 0) s ≤ s + 64 * l.length
 | [], s => by simp
 | i :: l, s => by
  rw [sum_cons]
  have h := sum_bound hw l (s + ws.getD i.toNat 0)
  have : 0 ≤ ws.getD i.toNat 0 ∧ ws.getD i.toNat 0 ≤ 64 := by
   rw [List.getD_eq_getElem?_getD]
   cases hx : ws[i.toNat]? with
   | none => simp
   | some x => exact hw x (List.mem_of_getElem? hx)
  rw [List.length_cons]
  omega
end
section
open Go.RowKit nam exp
def IRow (w : World) (v : Value) (l : List Int) : Prop :=
 ∃ a c, v = .slice a l.length c ∧ (0 < l.length → ∃ b o, a = some ⟨b, o, none⟩ ∧ b < w.heap.size ∧ ∀ i (h : i < l.length), w.cell? ⟨b, o + i, none⟩ = some (.int .i64 l[i]))
theorem IRow.on {w w' : World} {v : Value} {l : List Int} (h : IRow w v l) (hb : Below w.heap.size w w') : IRow w' v l := by
 obtain ⟨a, c, h1, h2⟩ := h
 refine ⟨a, c, h1, fun hl => ?_⟩
 obtain ⟨b, o, h3, h4, h5⟩ := h2 hl
 exact ⟨b, o, h3, by have := hb.size; omega, fun i hi => (hb.cell (p := ⟨b, o + i, none⟩) h4).trans (h5 i hi)⟩
def nodeV (nd : Nd) (vi va : Value) : Value := .agg #[.string nd.uid, .int .u8 (nd.kind : Int), vi, .int .u8 (nd.x.op : Int), .int .i64 nd.x.n, va, .int .i64 nd.n]
def NodeIs (w : World) (v : Value) (nd : Nd) : Prop := ∃ vi va, v = nodeV nd vi va ∧ IRow w vi nd.ins ∧ Lies w Any va nd.x.args
def NodeAt (w : World) (b o : Nat) (nd : Nd) : Prop := b < w.heap.size ∧ ∃ vi va, w.cell? ⟨b, o, none⟩ = some (.string nd.uid) ∧ w.cell? ⟨b, o + 1, none⟩ = some (.int .u8 (nd.kind : Int)) ∧ w.cell? ⟨b, o + 2, none⟩ = some vi ∧
 w.cell? ⟨b, o + 3, none⟩ = some (.int .u8 (nd.x.op : Int)) ∧ w.cell? ⟨b, o + 4, none⟩ = some (.int .i64 nd.x.n) ∧ w.cell? ⟨b, o + 5, none⟩ = some va ∧ w.cell? ⟨b, o + 6, none⟩ = some (.int .i64 nd.n) ∧ IRow w vi nd.ins ∧ Lies w Any va nd.x.args
theorem NodeAt.on {w w' : World} {b o : Nat} {nd : Nd} (h : NodeAt w b o nd) (hb : Below w.heap.size w w') : NodeAt w' b o nd := by
 obtain ⟨h0, vi, va, h1, h2, h3, h4, h5, h6, h7, h8, h9⟩ := h
 have tc : ∀ {k : Nat} {z : Value}, w.cell? ⟨b, k, none⟩ = some z → w'.cell? ⟨b, k, none⟩ = some z := fun {k z} hz => (hb.cell (p := ⟨b, k, none⟩) h0).trans hz
 exact ⟨by have := hb.size; omega, vi, va, tc h1, tc h2, tc h3, tc h4, tc h5, tc h6, tc h7, h8.on hb, h9.under hb⟩
def Nodes (w : World) (v : Value) (l : List Nd) : Prop :=
 ∃ a c, v = .slice a l.length c ∧ l.length ≤ c ∧ (0 < l.length → ∃ b, a = some ⟨b, 0, none⟩ ∧ ∀ i (h : i < l.length), NodeAt w b (i * 7) l[i])
theorem Nodes.on {w w' : World} {v : Value} {l : List Nd} (h : Nodes w v l) (hb : Below w.heap.size w w') : Nodes w' v l := by
 obtain ⟨a, c, h1, h0, h2⟩ := h
 refine ⟨a, c, h1, h0, fun hl => ?_⟩
 obtain ⟨b, h3, h4⟩ := h2 hl
 exact ⟨b, h3, fun i hi => (h4 i hi).on hb⟩
theorem Nodes.take {w : World} {a : Option Addr} {n c : Nat} {l : List Nd} (h : Nodes w (.slice a n c) l) {k : Nat} (hk : k ≤ l.length) : Nodes w (.slice a k c) (l.take k) := by
 obtain ⟨a', c', h1, h0, h2⟩ := h
 obtain ⟨rfl, rfl, rfl⟩ : a = a' ∧ n = l.length ∧ c = c' := by simpa using h1
 have hlen : (l.take k).length = k := by rw [List.length_take]; omega
 refine ⟨a, c, by rw [hlen], by omega, fun hl => ?_⟩
 obtain ⟨b, h3, h4⟩ := h2 (by omega)
 exact ⟨b, h3, fun i hi => by
  rw [List.getElem_take]
  exact h4 i (by omega)⟩
theorem box7 {w W : World} {a b c d e f g : Value} {t : TypeId} (hW : w.alloc (.cells #[a, b, c, d, e, f, g] t) = W) : W.cell? ⟨w.heap.size, 0, none⟩ = some a ∧ W.cell? ⟨w.heap.size, 1, none⟩ = some b ∧ W.cell? ⟨w.heap.size, 2, none⟩ = some c ∧
  W.cell? ⟨w.heap.size, 3, none⟩ = some d ∧ W.cell? ⟨w.heap.size, 4, none⟩ = some e ∧ W.cell? ⟨w.heap.size, 5, none⟩ = some f ∧ W.cell? ⟨w.heap.size, 6, none⟩ = some g := by
 subst hW
 have h := heap_last (w := w) (o := .cells #[a, b, c, d, e, f, g] t) rfl
 exact ⟨cell_of h rfl, cell_of h rfl, cell_of h rfl, cell_of h rfl, cell_of h rfl, cell_of h rfl, cell_of h rfl⟩
theorem below_made (w : World) (o : Obj) : Below w.heap.size w (w.alloc o) := (Below.refl _ _).alloc (Nat.le_refl _) _
def Ask.cells (a : Ask) : List Value := [.int .i64 a.few, .int .i64 a.many, .int .u8 (a.ty : Int), .bool a.acc, .int .i64 a.least, .int .i64 a.most, .bool a.keeps]
def askV (a : Ask) : Value := .agg #[.int .i64 a.few, .int .i64 a.many, .int .u8 (a.ty : Int), .bool a.acc, .int .i64 a.least, .int .i64 a.most, .bool a.keeps]
def askCells : List Value := askL.flatMap Ask.cells
def Tab (w : World) : Prop := ∃ t fr, w.heap[0]? = some (.cells askCells.toArray t fr)
theorem Tab.on {w w' : World} (h : Tab w) (hb : Below w.heap.size w w') : Tab w' := by
 obtain ⟨t, fr, h⟩ := h
 exact ⟨t, fr, (hb.block _ (Array.getElem?_eq_some_iff.1 h).1).trans h⟩
theorem Tab.row {w : World} (h : Tab w) {k : Nat} (hk : k < 10) : w.cell? ⟨0, k * 7, none⟩ = some (.int .i64 (askR k).few) ∧ w.cell? ⟨0, k * 7 + 1, none⟩ = some (.int .i64 (askR k).many) ∧ w.cell? ⟨0, k * 7 + 2, none⟩ = some (.int .u8 ((askR k).ty : Int)) ∧
  w.cell? ⟨0, k * 7 + 3, none⟩ = some (.bool (askR k).acc) ∧ w.cell? ⟨0, k * 7 + 4, none⟩ = some (.int .i64 (askR k).least) ∧ w.cell? ⟨0, k * 7 + 5, none⟩ = some (.int .i64 (askR k).most) ∧ w.cell? ⟨0, k * 7 + 6, none⟩ = some (.bool (askR k).keeps) := by
 obtain ⟨t, fr, h⟩ := h
 match k, hk with
 | 0, _ | 1, _ | 2, _ | 3, _ | 4, _ | 5, _ | 6, _ | 7, _ | 8, _ | 9, _ => exact ⟨cell_of h rfl, cell_of h rfl, cell_of h rfl, cell_of h rfl, cell_of h rfl, cell_of h rfl, cell_of h rfl⟩
 | k + 10, hk => exact absurd hk (by omega)
def intV (n : Int) : Value := .int .i64 n
theorem own_below' {W W' : World} {B e size n : Nat} {v : Value} {xs : List Value} (h : W.ownsRow B e size v n xs) (hb : Below W.heap.size W W') : W'.ownsRow B e size v n xs := own_below h hb
end
section
open Go.RowKit nam exp
theorem askR_out {k : Nat} (h : kindOk k = false) : askR k = ask0 := by
 unfold kindOk at h
 simp at h
 match k, h with
 | 0, _ => rfl
 | k + 10, _ => rfl
theorem kind_is {x : Ex} {v : Value} {B : Nat → Prop} {w : World} (h : Lies w B v x.args) (hs : x.size ≤ 1000000) (acc : Bool) (ty : Nat) :
  Calls Tryz.prog 175 #[exV x v, .bool acc, .int .u8 (ty : Int)] w fun e w' => e = .returned (.bool (decide (kindO x acc = (ty, 0)))) ∧ Below w.heap.size w w' := by
 obtain ⟨W, hW⟩ : ∃ W, w.alloc (.cells #[.int .u8 (x.op : Int), .int .i64 x.n, v] 46) = W := ⟨_, rfl⟩
 have hwb : Below w.heap.size w W := by rw [← hW]; exact below_made _ _
 have HK := Lib.hid (kind_any (h.under hwb) hs acc)
 obtain ⟨c0, c1, c2⟩ := box_cells hW
 have HB := Lib.hid hwb
 obtain ⟨t, ht⟩ : ∃ t : Nat, (kindO x acc).1 = t := ⟨_, rfl⟩
 obtain ⟨q, hq⟩ : ∃ q : Int, (kindO x acc).2 = q := ⟨_, rfl⟩
 rw [ht, hq] at HK
 have HR : Hid (∀ b : Bool, (b = true ↔ t = ty ∧ q = 0) → decide (kindO x acc = (ty, 0)) = b) := Lib.hid (fun b hb => by
  rw [Bool.eq_iff_iff, hb, decide_eq_true_eq, ← ht, ← hq, Prod.ext_iff])
 clear h hwb ht hq
 unfold exV at *
 by_cases hq0 : q = 0
 · subst hq0
   by_cases htt : t = ty
   · subst htt
     have e := HR.out true (by simp)
     rw [e]
     clear HR e
     go_enter Tryz.func175, Tryz.ntmps175
     go_wp2_with fail
     refine HK.out.mono ?_
     rintro e w1 ⟨rfl, hb1⟩
     have HX := Lib.hid (HB.out.trans (hb1.mono HB.out.size)); clear hb1
     go_wp2_with fail
     go_ret
     exact ⟨ret_bool (by simp), HX.out⟩
   · have e := HR.out false (by simp [htt])
     rw [e]
     have hne : ((t : Int) == (ty : Int)) = false := by rw [beq_eq_false_iff_ne]; omega
     clear HR e
     go_enter Tryz.func175, Tryz.ntmps175
     go_wp2_with fail
     refine HK.out.mono ?_
     rintro e w1 ⟨rfl, hb1⟩
     have HX := Lib.hid (HB.out.trans (hb1.mono HB.out.size)); clear hb1
     go_wp2_with fail
     go_ret
     exact ⟨ret_bool (by simp [htt]), HX.out⟩
 · have e := HR.out false (by simp [hq0])
   rw [e]
   have hne : (q == 0) = false := by rw [beq_eq_false_iff_ne]; exact hq0
   clear HR e hq0
   go_enter Tryz.func175, Tryz.ntmps175
   go_wp2_with fail
   refine HK.out.mono ?_
   rintro e w1 ⟨rfl, hb1⟩
   have HX := Lib.hid (HB.out.trans (hb1.mono HB.out.size)); clear hb1
   go_wp2_with fail
   go_ret
   exact ⟨ret_bool (by simp), HX.out⟩
end
section
open Go.RowKit nam exp
set_option maxRecDepth 1000000 in
theorem asked_at {w : World} (h : Tab w) {k : Nat} :
  Calls Tryz.prog 59 #[.int .u8 (k : Int)] w fun e w' => e = .returned (.tuple #[askV (askR k), .bool (kindOk k)]) ∧ Below w.heap.size w w' := by
 have HB : Hid (∀ o, Below w.heap.size w (w.alloc o)) := Lib.hid (fun o => below_made w o)
 have hT := h.on (below_made w (.cells #[.int .i64 0, .int .i64 0, .int .u8 0, .bool false, .int .i64 0, .int .i64 0, .bool false] 124))
 have bx := fun (a b c d e f g : Value) => @box7 w _ a b c d e f g 124 rfl
 by_cases hk : kindOk k = true
 · have hk' := hk
   unfold kindOk at hk'
   rw [decide_eq_true_eq] at hk'
   obtain ⟨c0, c1, c2, c3, c4, c5, c6⟩ := hT.row (k := k) (by omega)
   have h1 : (1 : Int) ≤ (k : Int) := by omega
   have h9 : (k : Int) ≤ 9 := by omega
   have h10 : (k : Int) < 10 := by omega
   rw [hk]
   generalize askR k = R at *
   obtain ⟨few, many, ty, acc, least, most, keeps⟩ := R
   simp only at c0 c1 c2 c3 c4 c5 c6
   have hb7 := bx (.int .i64 few) (.int .i64 many) (.int .u8 (ty : Int)) (.bool acc) (.int .i64 least) (.int .i64 most) (.bool keeps)
   have HX := Lib.hid hb7
   clear h hT hk hk' bx hb7
   go_enter Tryz.func59, Tryz.ntmps59
   go_wp2_with fail
   obtain ⟨d0, d1, d2, d3, d4, d5, d6⟩ := HX.out
   exact bodyPost_ret (v := .tuple #[askV ⟨few, many, ty, acc, least, most, keeps⟩, .bool true]) (by simp [results, Tryz.f59, go_sem, askV, d0, d1, d2, d3, d4, d5, d6]) rfl ⟨rfl, HB.out _⟩
 · have hkf : kindOk k = false := by simpa using hk
   rw [hkf, askR_out hkf]
   have hb7 := bx (.int .i64 0) (.int .i64 0) (.int .u8 0) (.bool false) (.int .i64 0) (.int .i64 0) (.bool false)
   have HX := Lib.hid hb7
   have hor : ((k : Int) < 1 ∧ ¬ 9 < (k : Int)) ∨ (¬ (k : Int) < 1 ∧ 9 < (k : Int)) := by
    unfold kindOk at hkf
    simp at hkf
    omega
   clear h hT hk hkf bx hb7
   rcases hor with ⟨ho, ho2⟩ | ⟨ho, ho2⟩
   all_goals
    go_enter Tryz.func59, Tryz.ntmps59
    go_wp2_with fail
    obtain ⟨d0, d1, d2, d3, d4, d5, d6⟩ := HX.out
    exact bodyPost_ret (v := .tuple #[askV ask0, .bool false]) (by simp [results, Tryz.f59, go_sem, askV, ask0, d0, d1, d2, d3, d4, d5, d6]) rfl ⟨rfl, HB.out _⟩
end
section
open Go.RowKit nam exp
def isP (p : Int) (x : Int) : Bool := decide (p = x)
set_option maxHeartbeats 800000 in
set_option maxRecDepth 1000000 in
theorem index_any {w : World} {v : Value} {l : List Int} (h : IRow w v l) (hl : l.length ≤ 1000000) (p : Int) :
  Calls Tryz.prog 202 #[v, .int .i64 p] w fun e w' => e = .returned (.int .i64 (firstI (isP p) l 0)) ∧ w' = w := by
 obtain ⟨a, c, rfl, h2⟩ := h
 have HC := Lib.hid h2
 clear h2
 obtain ⟨n, hn⟩ : ∃ n, l.length = n := ⟨_, rfl⟩
 have HN := Lib.hid hn
 rw [hn] at hl
 rw [hn]
 clear hn
 go_enter Tryz.func202, Tryz.ntmps202
 go_wp2_with fail
 go_loopg [8] n (fun g v8 wr => ∃ k : Nat, k + g = n ∧ v8 = .int .i64 k ∧ firstI (isP p) (l.drop k) k = firstI (isP p) l 0 ∧ wr = w)
 case atStart => exact ⟨0, by omega, rfl, rfl, rfl⟩
 case round =>
  obtain ⟨k, hk, rfl, hf, rfl⟩ := hrel
  have HF := Lib.hid hf; clear hf
  by_cases hkn : k < n
  · have hkl : k < l.length := by rw [HN.out]; exact hkn
    have hki : (k : Int) < (n : Int) := by omega
    obtain ⟨b, o, rfl, _, hc⟩ := HC.out (by omega)
    have hc := hc k hkl
    have HD := Lib.hid (firstI_drop (f := isP p) (k := k) hkl)
    obtain ⟨x, hx⟩ : ∃ x, l[k] = x := ⟨_, rfl⟩
    rw [hx] at hc HD
    have HP : Hid (isP p x = decide (p = x)) := Lib.hid rfl
    clear hx hkl hkn
    by_cases hpx : p = x
    · subst hpx
      have HE : Hid (Ending.returned (.int .i64 (k : Int)) = .returned (.int .i64 (firstI (isP p) l 0))) := Lib.hid (by rw [← HF.out, HD.out, HP.out]; simp)
      go_wp2_with fail
      try rw [Exit.noGoto_ret]
      go_ret
      exact ⟨HE.out, rfl⟩
    · have hne : (p == x) = false := by rw [beq_eq_false_iff_ne]; exact hpx
      have HE : Hid (firstI (isP p) (l.drop (k + 1)) (k + 1) = firstI (isP p) l 0) := Lib.hid (by rw [← HF.out, HD.out, HP.out]; simp [hpx])
      go_wp2_with fail
      go_roundg (gk - 1)
      case rel => exact ⟨k + 1, by omega, by go_num, HE.out, rfl⟩
      case measure => omega
  · have hki : ¬ (k : Int) < (n : Int) := by omega
    have HE : Hid (Ending.returned (.int .i64 (-1)) = .returned (.int .i64 (firstI (isP p) l 0))) := Lib.hid (by rw [← HF.out, List.drop_eq_nil_of_le (by rw [HN.out]; omega)]; rfl)
    clear hkn
    go_wp2_with fail
    try rw [Exit.noGoto_ret]
    go_ret
    exact ⟨HE.out, rfl⟩
theorem contains_any {w : World} {v : Value} {l : List Int} (h : IRow w v l) (hl : l.length ≤ 1000000) (p : Int) :
  Calls Tryz.prog 177 #[v, .int .i64 p] w fun e w' => e = .returned (.bool (decide (p ∈ l))) ∧ w' = w := by
 have HI := Lib.hid (index_any h hl p)
 have HR : Hid (decide (p ∈ l) = decide (0 ≤ firstI (isP p) l 0)) := Lib.hid (by
  rw [Bool.eq_iff_iff, decide_eq_true_eq, decide_eq_true_eq, firstI_lt]
  constructor
  · exact fun h => ⟨p, h, by simp [isP]⟩
  · rintro ⟨x, h1, h2⟩
    have : p = x := by simpa [isP] using h2
    rw [this]; exact h1)
 obtain ⟨r, hr⟩ : ∃ r, firstI (isP p) l 0 = r := ⟨_, rfl⟩
 rw [hr] at HI HR
 rw [HR.out]
 clear h hr HR
 go_enter Tryz.func177, Tryz.ntmps177
 go_wp2_with fail
 refine HI.out.mono ?_
 rintro e w1 ⟨rfl, rfl⟩
 go_wp2_with fail
 go_ret
 exact ⟨ret_bool (by simp), rfl⟩
end
section
open Go.RowKit nam exp
set_option maxHeartbeats 800000 in
set_option maxRecDepth 1000000 in
theorem first_int {w : World} {v : Value} {l : List Int} {K : FuncId} {cp : Array Value} {f : Int → Bool} (h : IRow w v l) (hl : l.length ≤ 1000000) (hen : ∀ args w, (callFunc K args).run Tryz.prog w = .ok (.enter K args) w)
  (hK : ∀ i (h : i < l.length) (w' : World), Below w.heap.size w w' → Calls Tryz.prog K (#[.int .i64 l[i]] ++ cp) w' fun e w'' => e = .returned (.bool (f l[i])) ∧ Below w'.heap.size w' w'') :
  Calls Tryz.prog 170 #[v, .func (.func K) #[] cp] w fun e w' => e = .returned (.int .i64 (firstI f l 0)) ∧ Below w.heap.size w w' := by
 obtain ⟨a, c, rfl, h2⟩ := h
 have HC := Lib.hid h2; have HK := Lib.hid hK
 clear h2 hK
 obtain ⟨n, hn⟩ : ∃ n, l.length = n := ⟨_, rfl⟩
 have HN := Lib.hid hn
 rw [hn] at hl
 rw [hn]
 clear hn
 go_enter Tryz.func170, Tryz.ntmps170
 go_wp2_with fail
 go_loopg [9] n (fun g v9 wr => ∃ k : Nat, k + g = n ∧ v9 = .int .i64 k ∧ firstI f (l.drop k) k = firstI f l 0 ∧ Below w.heap.size w wr)
 case atStart => exact ⟨0, by omega, rfl, rfl, Below.refl _ _⟩
 case round =>
  obtain ⟨k, hk, rfl, hf, hb⟩ := hrel
  have HF := Lib.hid hf; have HB := Lib.hid hb; clear hf hb
  by_cases hkn : k < n
  · have hkl : k < l.length := by rw [HN.out]; exact hkn
    have hki : (k : Int) < (n : Int) := by omega
    obtain ⟨b, o, rfl, hlt, hc⟩ := HC.out (by omega)
    have hc := (HB.out.cell (p := ⟨b, o + k, none⟩) hlt).trans (hc k hkl)
    have HD := Lib.hid (firstI_drop (f := f) (k := k) hkl)
    have HC1 := Lib.hid (HK.out k hkl wr HB.out)
    obtain ⟨x, hx⟩ : ∃ x, l[k] = x := ⟨_, rfl⟩
    rw [hx] at hc HD HC1
    obtain ⟨r, hr⟩ : ∃ r, f x = r := ⟨_, rfl⟩
    rw [hr] at HD HC1
    clear hx hkl hkn hr hlt
    cases r with
    | true =>
     have HE : Hid (Ending.returned (.int .i64 (k : Int)) = .returned (.int .i64 (firstI f l 0))) := Lib.hid (by rw [← HF.out, HD.out]; simp)
     go_wp2_with fail
     refine HC1.out.mono ?_
     rintro e w1 ⟨rfl, hb1⟩
     have HX := Lib.hid (HB.out.trans (hb1.mono HB.out.size)); clear hb1
     go_wp2_with fail
     try rw [Exit.noGoto_ret]
     go_ret
     exact ⟨HE.out, HX.out⟩
    | false =>
     have HE : Hid (firstI f (l.drop (k + 1)) (k + 1) = firstI f l 0) := Lib.hid (by rw [← HF.out, HD.out]; simp)
     go_wp2_with fail
     refine HC1.out.mono ?_
     rintro e w1 ⟨rfl, hb1⟩
     have HX := Lib.hid (HB.out.trans (hb1.mono HB.out.size)); clear hb1
     go_wp2_with fail
     go_roundg (gk - 1)
     case rel => exact ⟨k + 1, by omega, by go_num, HE.out, HX.out⟩
     case measure => omega
  · have hki : ¬ (k : Int) < (n : Int) := by omega
    have HE : Hid (Ending.returned (.int .i64 (-1)) = .returned (.int .i64 (firstI f l 0))) := Lib.hid (by rw [← HF.out, List.drop_eq_nil_of_le (by rw [HN.out]; omega)]; rfl)
    clear hkn
    go_wp2_with fail
    try rw [Exit.noGoto_ret]
    go_ret
    exact ⟨HE.out, HB.out⟩
def PlPost (l : List Int) (w : World) (e : Ending) (w' : World) : Prop := ∃ v, e = .returned v ∧ w'.ownsRow w.heap.size 3 1 v l.length (l.map intV) ∧ Below w.heap.size w w'
theorem drop_len {α : Type} {f : α → Bool} {l : List α} {done : List Int} {k : Nat} (h : done ++ placesI f (l.drop k) k = placesI f l 0) (hk : l.length ≤ k) : done = placesI f l 0 := by
 rw [← h, List.drop_eq_nil_of_le hk]; simp [placesI]
theorem places_more {w wr w1 w2 : World} {k : Nat} {done : List Int} {v5 v' : Value} {o : Obj} (hb : Below w.heap.size w wr) (hr : wr.ownsRow w.heap.size 3 1 v5 done.length (done.map intV)) (hb1 : Below wr.heap.size wr w1)
  (k4 : w2.ownsRow w.heap.size 3 1 v' (done.length + 1) (done.map intV ++ [.int .i64 (k : Int)])) (g4 : (w1.alloc o).grownBy w2 v5.ownBlock) : w2.ownsRow w.heap.size 3 1 v' (done ++ [(k : Int)]).length ((done ++ [(k : Int)]).map intV) ∧ Below w.heap.size w w2 := by
 refine ⟨by simpa [intV] using k4, ?_⟩
 have b1 := hb.trans (hb1.mono hb.size)
 exact (b1.alloc b1.size _).grown g4 (by rw [World.size_alloc]; have := b1.size; omega) (fun j hj => (hr.lt j hj).1)
set_option maxHeartbeats 800000 in
set_option maxRecDepth 1000000 in
theorem places_int {w : World} {v : Value} {l : List Int} {K : FuncId} {cp : Array Value} {f : Int → Bool} (h : IRow w v l) (hl : l.length ≤ 1000000) (hen : ∀ args w, (callFunc K args).run Tryz.prog w = .ok (.enter K args) w)
  (hK : ∀ i (h : i < l.length) (w' : World), Below w.heap.size w w' → Calls Tryz.prog K (#[.int .i64 l[i]] ++ cp) w' fun e w'' => e = .returned (.bool (f l[i])) ∧ Below w'.heap.size w' w'') :
  Calls Tryz.prog 172 #[v, .func (.func K) #[] cp] w (PlPost (placesI f l 0) w) := by
 obtain ⟨i0, hi, hz0, hz1, hz2⟩ := info_parts info3
 obtain ⟨a, c, rfl, h2⟩ := h
 have HC := Lib.hid h2; have HK := Lib.hid hK
 clear h2 hK
 obtain ⟨n, hn⟩ : ∃ n, l.length = n := ⟨_, rfl⟩
 have HN := Lib.hid hn
 rw [hn] at hl
 rw [hn]
 clear hn
 go_enter Tryz.func172, Tryz.ntmps172
 go_wp2_with fail
 go_loopg [5, 10] n (fun g v5 v10 wr => ∃ (k : Nat) (done : List Int), k + g = n ∧ v10 = .int .i64 k ∧ done.length ≤ k ∧ done ++ placesI f (l.drop k) k = placesI f l 0 ∧ wr.ownsRow w.heap.size 3 1 v5 done.length (done.map intV) ∧ Below w.heap.size w wr)
 case atStart => exact ⟨0, [], by omega, rfl, by simp, rfl, World.ownsRow_nil _ _ _ _, Below.refl _ _⟩
 case round =>
  obtain ⟨k, done, hk, rfl, hdk, hf, hr, hb⟩ := hrel
  have HF := Lib.hid hf; have HB := Lib.hid hb; have HR := Lib.hid hr; clear hf hb hr
  by_cases hkn : k < n
  · have hkl : k < l.length := by rw [HN.out]; exact hkn
    have hki : (k : Int) < (n : Int) := by omega
    obtain ⟨b, o, rfl, hlt, hc⟩ := HC.out (by omega)
    have hc := (HB.out.cell (p := ⟨b, o + k, none⟩) hlt).trans (hc k hkl)
    have HD := Lib.hid (placesI_drop (f := f) (k := k) hkl)
    have HC1 := Lib.hid (HK.out k hkl wr HB.out)
    obtain ⟨x, hx⟩ : ∃ x, l[k] = x := ⟨_, rfl⟩
    rw [hx] at hc HD HC1
    obtain ⟨r, hr⟩ : ∃ r, f x = r := ⟨_, rfl⟩
    rw [hr] at HD HC1
    clear hx hkl hr hlt
    cases r with
    | true =>
     have HE : Hid ((done ++ [(k : Int)]) ++ placesI f (l.drop (k + 1)) (k + 1) = placesI f l 0) := Lib.hid (by rw [← HF.out, HD.out]; simp)
     go_wp2_with fail
     refine HC1.out.mono ?_
     rintro e w1 ⟨rfl, hb1⟩
     have HO := Lib.hid (own_below' HR.out hb1)
     have HB1 := Lib.hid hb1
     have HSZ : Hid (∀ o, w.heap.size ≤ (w1.alloc o).heap.size) := Lib.hid (fun o => by rw [World.size_alloc]; have := HB.out.size; have := hb1.size; omega)
     clear hb1
     go_wp2_with (at_builtin; refine wpList_append_own _ rfl (.tmp 18) (.tmp 20) 43 rfl w.heap.size 3 i0 (.int .i64 0) 1 8 Tryz.underlying43 hi hz0 hz1 hz2 rfl (by decide) _ _ _ rfl (HO.out.alloc _) ⟨_, 0, none⟩ 1 1 [.int .i64 (k : Int)] rfl rfl (cell_one_new _ _ _) (by simp [Value.oneCell']) (by unfold maxLen; omega) (by omega) (HSZ.out _) ?_)
     intro v' w2 k4 g4 _
     have HM := Lib.hid (places_more HB.out HR.out HB1.out k4 g4)
     clear k4 g4
     go_wp2
     go_roundg (gk - 1)
     case rel => exact ⟨k + 1, _, by omega, by go_num, by simp; omega, HE.out, HM.out.1, HM.out.2⟩
     case measure => omega
    | false =>
     have HE : Hid (done ++ placesI f (l.drop (k + 1)) (k + 1) = placesI f l 0) := Lib.hid (by rw [← HF.out, HD.out]; simp)
     go_wp2_with fail
     refine HC1.out.mono ?_
     rintro e w1 ⟨rfl, hb1⟩
     have HX := Lib.hid (And.intro (own_below' HR.out hb1) (HB.out.trans (hb1.mono HB.out.size))); clear hb1
     go_wp2_with fail
     go_roundg (gk - 1)
     case rel => exact ⟨k + 1, done, by omega, by go_num, by omega, HE.out, HX.out.1, HX.out.2⟩
     case measure => omega
  · have hki : ¬ (k : Int) < (n : Int) := by omega
    have HE : Hid (done = placesI f l 0) := Lib.hid (drop_len HF.out (by rw [HN.out]; omega))
    clear hkn
    go_wp2_with fail
    try rw [Exit.noGoto_ret]
    go_ret
    exact ⟨_, rfl, by rw [← HE.out]; exact HR.out, HB.out⟩
end
section
open Go.RowKit nam exp
theorem box1 {w W : World} {a : Value} {t : TypeId} (hW : w.alloc (.cells #[a] t) = W) : W.cell? ⟨w.heap.size, 0, none⟩ = some a := by
 subst hW
 exact cell_of (heap_last (w := w) (o := .cells #[a] t) rfl) rfl
theorem lt_of_cell {w : World} {b o : Nat} {v : Value} (h : w.cell? ⟨b, o, none⟩ = some v) : b < w.heap.size := by
 cases hb : w.heap[b]? with
 | none => simp [World.cell?, hb] at h
 | some _ => exact (Array.getElem?_eq_some_iff.1 hb).1
theorem cell_on {w w' : World} {b o : Nat} {v : Value} (h : w.cell? ⟨b, o, none⟩ = some v) (hb : Below w.heap.size w w') : w'.cell? ⟨b, o, none⟩ = some v := (hb.cell (p := ⟨b, o, none⟩) (lt_of_cell h)).trans h
theorem same_at {w : World} {b : Nat} {i : Int} (c : w.cell? ⟨b, 0, none⟩ = some (.int .i64 i)) (y : Int) :
  Calls Tryz.prog 173 #[.int .i64 y, .pointer (some ⟨b, 0, none⟩)] w fun e w' => e = .returned (.bool (decide (y = i))) ∧ Below w.heap.size w w' := by
 go_enter Tryz.func173, Tryz.ntmps173
 go_wp2
 go_ret
 exact ⟨ret_bool (by rw [Bool.eq_iff_iff]; simp), Below.refl _ _⟩
set_option maxHeartbeats 800000 in
set_option maxRecDepth 1000000 in
theorem bad_at {w : World} {v : Value} {l : List Int} {p b1 b2 : Nat} (c1 : w.cell? ⟨b1, 0, none⟩ = some v) (c2 : w.cell? ⟨b2, 0, none⟩ = some (.int .i64 (p : Int))) (h : IRow w v l) (hl : l.length ≤ 1000000) (i : Int) :
  Calls Tryz.prog 171 #[.int .i64 i, .pointer (some ⟨b1, 0, none⟩), .pointer (some ⟨b2, 0, none⟩)] w fun e w' => e = .returned (.bool (badIn l p i)) ∧ Below w.heap.size w w' := by
 obtain ⟨W, hW⟩ : ∃ W, w.alloc (.cells #[.int .i64 i] 3) = W := ⟨_, rfl⟩
 have hwb : Below w.heap.size w W := by rw [← hW]; exact below_made _ _
 have c3 := box1 hW
 have d1 := cell_on c1 hwb
 have d2 := cell_on c2 hwb
 have HPL := Lib.hid (places_int (f := fun y => decide (y = i)) (h.on hwb) hl (enters_of Tryz.func173 (by kernel_rfl) rfl) (cp := #[.pointer (some ⟨w.heap.size, 0, none⟩)])
  (fun j hj w' hb => same_at (cell_on c3 hb) l[j]))
 have HB := Lib.hid hwb
 obtain ⟨m, hm⟩ : ∃ m, (placesI (fun y => decide (y = i)) l 0).length = m := ⟨_, rfl⟩
 have HR : Hid (badIn l p i = (decide (i < 0) || decide ((p : Int) ≤ i) || decide (1 < m))) := Lib.hid (by rw [← hm, placesI_len]; rfl)
 have HM := Lib.hid hm
 rw [HR.out]
 have HC2 := Lib.hid d2
 clear h hwb c1 c2 hm HR
 have hor : i < 0 ∨ (¬ i < 0 ∧ (p : Int) ≤ i) ∨ (¬ i < 0 ∧ ¬ (p : Int) ≤ i) := by omega
 go_enter Tryz.func171, Tryz.ntmps171
 go_wp2_with fail
 refine HPL.out.mono ?_
 rintro e w1 ⟨u, rfl, ho, hb1⟩
 rw [HM.out] at ho
 obtain ⟨a, cap, rfl, _, _⟩ := own_slice ho
 have e3 := cell_on c3 hb1
 have e2 := cell_on d2 hb1
 have HX := Lib.hid (HB.out.trans (hb1.mono HB.out.size))
 clear hb1 ho d1 d2 c3
 rcases hor with h0 | ⟨h0, h1⟩ | ⟨h0, h1⟩
 all_goals
  go_wp2_with fail
  go_ret
  exact ⟨ret_bool (by rw [Bool.eq_iff_iff]; simp; omega), HX.out⟩
set_option maxHeartbeats 800000 in
set_option maxRecDepth 1000000 in
theorem takesIn_any {w : World} {v : Value} {l : List Int} {p : Nat} (a : Ask) (hm : a.many ≤ 1000000) (h : IRow w v l) :
  Calls Tryz.prog 129 #[askV a, v, .int .i64 (p : Int)] w fun e w' => e = .returned (.bool (takesInB a l p)) ∧ Below w.heap.size w w' := by
 obtain ⟨s, c, rfl, h2⟩ := h
 have HROW : Hid (IRow w (.slice s l.length c) l) := Lib.hid ⟨s, c, rfl, h2⟩
 clear h2
 obtain ⟨few, many, ty, acc, least, most, keeps⟩ := a
 obtain ⟨n, hn⟩ : ∃ n, l.length = n := ⟨_, rfl⟩
 have HN := Lib.hid hn
 obtain ⟨W, hW⟩ : ∃ W, ((w.alloc (.cells #[.int .i64 few, .int .i64 many, .int .u8 (ty : Int), .bool acc, .int .i64 least, .int .i64 most, .bool keeps] 124)).alloc (.cells #[.slice s n c] 43)).alloc (.cells #[.int .i64 (p : Int)] 3) = W := ⟨_, rfl⟩
 have hwb : Below w.heap.size w W := by
  rw [← hW]
  exact (((below_made _ _).alloc (by simp) _).alloc (by simp; omega) _)
 obtain ⟨N, hN⟩ : ∃ N, w.heap.size = N := ⟨_, rfl⟩
 have bx := @box7 w _ (.int .i64 few) (.int .i64 many) (.int .u8 (ty : Int)) (.bool acc) (.int .i64 least) (.int .i64 most) (.bool keeps) 124 rfl
 have s1 : (w.alloc (.cells #[.int .i64 few, .int .i64 many, .int .u8 (ty : Int), .bool acc, .int .i64 least, .int .i64 most, .bool keeps] 124)).heap.size = N + 1 := by simp [hN]
 have up : Below (w.alloc (.cells #[.int .i64 few, .int .i64 many, .int .u8 (ty : Int), .bool acc, .int .i64 least, .int .i64 most, .bool keeps] 124)).heap.size (w.alloc (.cells #[.int .i64 few, .int .i64 many, .int .u8 (ty : Int), .bool acc, .int .i64 least, .int .i64 most, .bool keeps] 124)) W := by
  rw [← hW]
  exact (below_made _ _).alloc (by simp) _
 have c0 := cell_on bx.1 up
 have c1 := cell_on bx.2.1 up
 rw [hN] at c0 c1
 have c7 : W.cell? ⟨N + 1, 0, none⟩ = some (.slice s n c) := by
  rw [← hW]
  refine cell_on (w := (w.alloc (.cells #[.int .i64 few, .int .i64 many, .int .u8 (ty : Int), .bool acc, .int .i64 least, .int .i64 most, .bool keeps] 124)).alloc (.cells #[.slice s n c] 43)) ?_ (below_made _ _)
  have := @box1 (w.alloc (.cells #[.int .i64 few, .int .i64 many, .int .u8 (ty : Int), .bool acc, .int .i64 least, .int .i64 most, .bool keeps] 124)) _ (.slice s n c) 43 rfl
  rw [s1] at this
  exact this
 have c8 : W.cell? ⟨N + 1 + 1, 0, none⟩ = some (.int .i64 (p : Int)) := by
  have := @box1 ((w.alloc (.cells #[.int .i64 few, .int .i64 many, .int .u8 (ty : Int), .bool acc, .int .i64 least, .int .i64 most, .bool keeps] 124)).alloc (.cells #[.slice s n c] 43)) W (.int .i64 (p : Int)) 3 hW
  rw [World.size_alloc, s1] at this
  exact this
 have HFI := Lib.hid (fun (hl : n ≤ 1000000) => first_int (f := badIn l p) (HROW.out.on hwb) (by rw [HN.out]; exact hl) (enters_of Tryz.func171 (by kernel_rfl) rfl) (cp := #[.pointer (some ⟨N + 1, 0, none⟩), .pointer (some ⟨N + 1 + 1, 0, none⟩)])
  (fun j hj w' hb => bad_at (cell_on c7 hb) (cell_on c8 hb) (by rw [← HN.out]; exact ((HROW.out.on hwb).on hb)) (by rw [HN.out]; exact hl) l[j]))
 rw [HN.out] at HFI
 obtain ⟨r, hr⟩ : ∃ r, firstI (badIn l p) l 0 = r := ⟨_, rfl⟩
 rw [hr] at HFI
 have HR : Hid (takesInB ⟨few, many, ty, acc, least, most, keeps⟩ l p = (decide (few ≤ (n : Int) ∧ (n : Int) ≤ many) && decide (r < 0))) := Lib.hid (by
  unfold takesInB
  rw [HN.out]
  congr 1
  rw [Bool.eq_iff_iff, List.all_eq_true, decide_eq_true_eq]
  constructor
  · intro h0
    have := (firstI_lt (f := badIn l p) (l := l) (k := 0))
    rw [hr] at this
    by_cases hr0 : r < 0
    · exact hr0
    · obtain ⟨x, hx1, hx2⟩ := this.1 (by omega)
      have := h0 x hx1
      rw [hx2] at this
      cases this
  · intro h0 x hx
    cases hbx : badIn l p x with
    | false => rfl
    | true =>
     have := (firstI_lt (f := badIn l p) (l := l) (k := 0)).2 ⟨x, hx, hbx⟩
     rw [hr] at this
     omega)
 rw [HR.out]
 have HB := Lib.hid hwb
 rw [hn]
 clear hwb up s1 bx hn hr HR HROW HN
 unfold askV
 simp only at hm
 have hor : ((n : Int) < few) ∨ (¬ (n : Int) < few ∧ many < (n : Int)) ∨ (¬ (n : Int) < few ∧ ¬ many < (n : Int)) := by omega
 rcases hor with h0 | ⟨h0, h1⟩ | ⟨h0, h1⟩
 · go_enter Tryz.func129, Tryz.ntmps129
   go_wp2_with fail
   go_ret
   exact ⟨ret_bool (by simp; omega), by first | exact HB.out | exact hN ▸ HB.out⟩
 · go_enter Tryz.func129, Tryz.ntmps129
   go_wp2_with fail
   go_ret
   exact ⟨ret_bool (by simp; omega), by first | exact HB.out | exact hN ▸ HB.out⟩
 · have HF1 := Lib.hid (HFI.out (by omega))
   clear HFI
   go_enter Tryz.func129, Tryz.ntmps129
   go_wp2_with fail
   refine HF1.out.mono ?_
   rintro e w1 ⟨rfl, hb1⟩
   have HX := Lib.hid (HB.out.trans (hb1.mono HB.out.size)); clear hb1
   go_wp2_with fail
   go_ret
   exact ⟨ret_bool (by rw [Bool.eq_iff_iff]; simp; omega), by first | exact HX.out | exact hN ▸ HX.out⟩
end
section
open Go.RowKit nam exp
set_option maxHeartbeats 800000 in
set_option maxRecDepth 1000000 in
theorem takesX_any {w : World} {x : Ex} {v : Value} {B : Nat → Prop} (a : Ask) (h : Lies w B v x.args) (hs : x.size ≤ 1000000) :
  Calls Tryz.prog 130 #[askV a, exV x v] w fun e w' => e = .returned (.bool (takesXB a x)) ∧ Below w.heap.size w w' := by
 obtain ⟨few, many, ty, acc, least, most, keeps⟩ := a
 obtain ⟨N, hN⟩ : ∃ N, w.heap.size = N := ⟨_, rfl⟩
 obtain ⟨V, hV⟩ : ∃ V, w.alloc (.cells #[.int .i64 few, .int .i64 many, .int .u8 (ty : Int), .bool acc, .int .i64 least, .int .i64 most, .bool keeps] 124) = V := ⟨_, rfl⟩
 obtain ⟨W, hW⟩ : ∃ W, V.alloc (.cells #[.int .u8 (x.op : Int), .int .i64 x.n, v] 46) = W := ⟨_, rfl⟩
 have hwv : Below w.heap.size w V := by rw [← hV]; exact below_made _ _
 have hvw : Below V.heap.size V W := by rw [← hW]; exact below_made _ _
 have hwb := below_on' hwv hvw
 have sV : V.heap.size = N + 1 := by rw [← hV, World.size_alloc, hN]
 have bx := box7 hV
 have c2 := cell_on bx.2.2.1 hvw
 have c3 := cell_on bx.2.2.2.1 hvw
 rw [hN] at c2 c3
 obtain ⟨e0, e1, e2⟩ := box_cells hW
 rw [sV] at e0 e1 e2
 have HB := Lib.hid hwb
 have HL := Lib.hid (h.under hwb)
 have HV := Lib.hid sV
 have hty : ((ty : Int) == 0) = decide (ty = 0) := by rw [Bool.eq_iff_iff]; simp
 clear h hwv hvw hwb bx
 unfold askV exV
 by_cases h0 : ty = 0
 · have HS := Lib.hid (same_any (y := Ex.zero) (F' := Any) HL.out (.nil) hs)
   have HR : Hid (takesXB ⟨few, many, ty, acc, least, most, keeps⟩ x = isZ x) := Lib.hid (by unfold takesXB; rw [if_pos h0])
   rw [HR.out]
   rw [decide_eq_true h0] at hty
   unfold exV at HS
   clear HR h0
   go_enter Tryz.func130, Tryz.ntmps130
   go_wp2_with fail
   refine HS.out.mono ?_
   rintro e w1 ⟨r, rfl, hr, hb1⟩
   have HX := Lib.hid (HB.out.trans (hb1.mono HB.out.size)); clear hb1
   have HR := Lib.hid hr; clear hr
   go_wp2_with fail
   go_ret
   exact ⟨ret_bool (by rw [Bool.eq_iff_iff, HR.out, isZ_iff]), by first | exact HX.out | exact hN ▸ HX.out⟩
 · have HS := Lib.hid (kind_is HL.out hs acc ty)
   have HR : Hid (takesXB ⟨few, many, ty, acc, least, most, keeps⟩ x = decide (kindO x acc = (ty, 0))) := Lib.hid (by unfold takesXB; rw [if_neg h0])
   rw [HR.out]
   rw [decide_eq_false h0] at hty
   generalize decide (kindO x acc = (ty, 0)) = r at *
   unfold exV at HS
   clear HR h0
   go_enter Tryz.func130, Tryz.ntmps130
   go_wp2_with fail
   refine HS.out.mono ?_
   rintro e w1 ⟨rfl, hb1⟩
   have HX := Lib.hid (HB.out.trans (hb1.mono HB.out.size)); clear hb1
   go_wp2_with fail
   go_ret
   exact ⟨rfl, by first | exact HX.out | exact hN ▸ HX.out⟩
end
end Go.Proofs.YtepdecnegihhhaaGreatDoor.jb

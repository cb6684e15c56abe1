/- What or, and, cmp, sum, term answer. What unary answers. What one answers. -/
import Derived.Test.YtepdecnegihhhaaGreatDoorMEt
set_option linter.unusedSimpArgs false
set_option linter.unusedVariables false
namespace Go.Proofs.YtepdecnegihhhaaGreatDoor.exp
section
open Go.RowKit nam lex
theorem wrap {S : Src} {O : Out} {w W2 w3 : World} {N0 i0 i : Nat} {A N : Int} {p : Option Addr} {n c : Nat} {b : Bool} (hb : Below w.heap.size w W2) (h0 : Bx W2 N0 0 0 none 0 0) (hN0 : w.heap.size ≤ N0) (hs : Rs S W2 i0) (hr : Rs S w3 i) (ho : Only (Mine S) W2 w3) (ht : Tells S (From W2) O w3 A N p n c b i) :
  Bx w3 N0 0 0 none 0 0 ∧ PPost S O w (.returned (.tuple #[.agg #[.int .u8 A, .int .i64 N, .slice p n c], .bool b])) (set3 w3 N0 A N p n c) := by
 have h3 : Bx w3 N0 0 0 none 0 0 := h0.only ho hs
 have hsz := hb.size
 have hlt := h0.lt
 refine ⟨h3, A, N, p, n, c, b, i, rfl, hr.set3 h3, set3_only ((Only.of_below hb).then ho) hN0, ?_⟩
 cases O with
 | bad l => exact ht
 | ok x l =>
  obtain ⟨t0, t1, t2, t3, t4, t5⟩ := ht
  refine ⟨t0, t1, t2, t3, (t4.frame fun k cc hk hcc => set3_other (fun e => ?_)).mono fun k hk => ?_, t5⟩
  · unfold From at hk; omega
  · unfold From at *; omega
set_option maxRecDepth 1000000 in
theorem row0_any {S : Src} {f : List Tok → Out} {L i : Nat} {w : World} (hf : ∀ (w' : World) (i' : Nat), Rs S w' i' → (S.at i').length ≤ L → Calls Tryz.prog 193 #[ptr S.rb] w' (PPost S (f (S.at i')) w')) (hfl : ∀ l, Less l.length (f l)) (hs : Rs S w i) (hL : (S.at i).length ≤ L) :
  Calls Tryz.prog 162 #[ptr S.rb] w (PPost S (rowO f 0 400 (S.at i)) w) := by
 obtain ⟨W, hW⟩ : ∃ W, w.alloc (.cells #[.int .u8 0, .int .i64 0, .slice none 0 0] 46) = W := ⟨_, rfl⟩
 obtain ⟨N0, hN0⟩ : ∃ N, w.heap.size = N := ⟨_, rfl⟩
 have hWs : W.heap.size = N0 + 1 := by rw [← hW]; simp [hN0]
 obtain ⟨W2, hW2⟩ : ∃ W2, W.alloc (.cells #[.string ⟨#[124]⟩] 9) = W2 := ⟨_, rfl⟩
 have hwb : Below w.heap.size w W := by rw [← hW]; exact (Below.refl _ _).alloc (Nat.le_refl _) _
 have hwb2 : Below W.heap.size W W2 := by rw [← hW2]; exact (Below.refl _ _).alloc (Nat.le_refl _) _
 have hb0 : Bx W2 N0 0 0 none 0 0 := Bx.under (w := W) (by rw [← hW]; exact heap_last hN0.symm) hwb2
 have hb : Below w.heap.size w W2 := hwb.trans (hwb2.mono hwb.size)
 have hsg : Sgs W2 (N0 + 1) [⟨#[124]⟩] := ⟨_, by rw [← hW2]; exact heap_last hWs.symm, fun j hj => match j, hj with
  | 0, _ => rfl⟩
 have hz : ([⟨#[124]⟩] : List ByteArray) = (sgs 0).map textOf := by
  simp only [sgs, List.map_cons, List.map_nil, lit1 124 (by decide)]
  rfl
 have hs2 := hs.under hb
 have hent : ∀ args w, (callFunc 193 args).run Tryz.prog w = .ok (.enter 193 args) w := enters_of Tryz.func193 (by kernel_rfl) rfl
 have hlev := level_any (m0 := 400) (cs := 1) (r := 0) (by omega) hent hf hfl hs2 hL (by omega) hz hsg
 rw [show (((400 : Nat)) : Int) = 400 from rfl, show ([⟨#[124]⟩] : List ByteArray).length = 1 from rfl] at hlev
 have HLEV := Lib.hid hlev
 have HB := Lib.hid hb; have HB0 := Lib.hid hb0; have HS2 := Lib.hid hs2; have HN := Lib.hid hN0
 clear hlev hf hfl hs hL hb hb0 hs2 hsg hz hwb hwb2
 unfold ptr at *
 go_enter Tryz.func162, Tryz.ntmps162
 go_wp2_with fail
 refine HLEV.out.mono ?_
 rintro e w3 ⟨A, N, p, n, c, b, i3, rfl, hr3, ho3, ht3⟩
 obtain ⟨h3, hp⟩ := wrap HB.out HB0.out (by have := HN.out; omega) HS2.out hr3 ho3 ht3
 have HP := Lib.hid hp
 obtain ⟨a1, a2, a3, a4, a5, a6⟩ := h3.cells
 clear hr3 ho3 ht3 h3 hp
 go_wp2_with fail
 refine bodyPost_ret (v := .tuple #[.agg #[.int .u8 A, .int .i64 N, .slice p n c], .bool b]) (by simp [results, Tryz.f162, go_sem, a1, a2, a3]) rfl HP.out
set_option maxRecDepth 1000000 in
theorem row1_any {S : Src} {f : List Tok → Out} {L i : Nat} {w : World} (hf : ∀ (w' : World) (i' : Nat), Rs S w' i' → (S.at i').length ≤ L → Calls Tryz.prog 215 #[ptr S.rb] w' (PPost S (f (S.at i')) w')) (hfl : ∀ l, Less l.length (f l)) (hs : Rs S w i) (hL : (S.at i).length ≤ L) :
  Calls Tryz.prog 193 #[ptr S.rb] w (PPost S (rowO f 1 400 (S.at i)) w) := by
 obtain ⟨W, hW⟩ : ∃ W, w.alloc (.cells #[.int .u8 0, .int .i64 0, .slice none 0 0] 46) = W := ⟨_, rfl⟩
 obtain ⟨N0, hN0⟩ : ∃ N, w.heap.size = N := ⟨_, rfl⟩
 have hWs : W.heap.size = N0 + 1 := by rw [← hW]; simp [hN0]
 obtain ⟨W2, hW2⟩ : ∃ W2, W.alloc (.cells #[.string ⟨#[38]⟩] 9) = W2 := ⟨_, rfl⟩
 have hwb : Below w.heap.size w W := by rw [← hW]; exact (Below.refl _ _).alloc (Nat.le_refl _) _
 have hwb2 : Below W.heap.size W W2 := by rw [← hW2]; exact (Below.refl _ _).alloc (Nat.le_refl _) _
 have hb0 : Bx W2 N0 0 0 none 0 0 := Bx.under (w := W) (by rw [← hW]; exact heap_last hN0.symm) hwb2
 have hb : Below w.heap.size w W2 := hwb.trans (hwb2.mono hwb.size)
 have hsg : Sgs W2 (N0 + 1) [⟨#[38]⟩] := ⟨_, by rw [← hW2]; exact heap_last hWs.symm, fun j hj => match j, hj with
  | 0, _ => rfl⟩
 have hz : ([⟨#[38]⟩] : List ByteArray) = (sgs 1).map textOf := by
  simp only [sgs, List.map_cons, List.map_nil, lit1 38 (by decide)]
  rfl
 have hs2 := hs.under hb
 have hent : ∀ args w, (callFunc 215 args).run Tryz.prog w = .ok (.enter 215 args) w := enters_of Tryz.func215 (by kernel_rfl) rfl
 have hlev := level_any (m0 := 400) (cs := 1) (r := 1) (by omega) hent hf hfl hs2 hL (by omega) hz hsg
 rw [show (((400 : Nat)) : Int) = 400 from rfl, show ([⟨#[38]⟩] : List ByteArray).length = 1 from rfl] at hlev
 have HLEV := Lib.hid hlev
 have HB := Lib.hid hb; have HB0 := Lib.hid hb0; have HS2 := Lib.hid hs2; have HN := Lib.hid hN0
 clear hlev hf hfl hs hL hb hb0 hs2 hsg hz hwb hwb2
 unfold ptr at *
 go_enter Tryz.func193, Tryz.ntmps193
 go_wp2_with fail
 refine HLEV.out.mono ?_
 rintro e w3 ⟨A, N, p, n, c, b, i3, rfl, hr3, ho3, ht3⟩
 obtain ⟨h3, hp⟩ := wrap HB.out HB0.out (by have := HN.out; omega) HS2.out hr3 ho3 ht3
 have HP := Lib.hid hp
 obtain ⟨a1, a2, a3, a4, a5, a6⟩ := h3.cells
 clear hr3 ho3 ht3 h3 hp
 go_wp2_with fail
 refine bodyPost_ret (v := .tuple #[.agg #[.int .u8 A, .int .i64 N, .slice p n c], .bool b]) (by simp [results, Tryz.f193, go_sem, a1, a2, a3]) rfl HP.out
set_option maxRecDepth 1000000 in
theorem row2_any {S : Src} {f : List Tok → Out} {L i : Nat} {w : World} (hf : ∀ (w' : World) (i' : Nat), Rs S w' i' → (S.at i').length ≤ L → Calls Tryz.prog 228 #[ptr S.rb] w' (PPost S (f (S.at i')) w')) (hfl : ∀ l, Less l.length (f l)) (hs : Rs S w i) (hL : (S.at i).length ≤ L) :
  Calls Tryz.prog 215 #[ptr S.rb] w (PPost S (rowO f 2 1 (S.at i)) w) := by
 obtain ⟨W, hW⟩ : ∃ W, w.alloc (.cells #[.int .u8 0, .int .i64 0, .slice none 0 0] 46) = W := ⟨_, rfl⟩
 obtain ⟨N0, hN0⟩ : ∃ N, w.heap.size = N := ⟨_, rfl⟩
 have hWs : W.heap.size = N0 + 1 := by rw [← hW]; simp [hN0]
 obtain ⟨W2, hW2⟩ : ∃ W2, W.alloc (.cells #[.string ⟨#[60]⟩, .string ⟨#[60, 61]⟩, .string ⟨#[61]⟩, .string ⟨#[33, 61]⟩] 9) = W2 := ⟨_, rfl⟩
 have hwb : Below w.heap.size w W := by rw [← hW]; exact (Below.refl _ _).alloc (Nat.le_refl _) _
 have hwb2 : Below W.heap.size W W2 := by rw [← hW2]; exact (Below.refl _ _).alloc (Nat.le_refl _) _
 have hb0 : Bx W2 N0 0 0 none 0 0 := Bx.under (w := W) (by rw [← hW]; exact heap_last hN0.symm) hwb2
 have hb : Below w.heap.size w W2 := hwb.trans (hwb2.mono hwb.size)
 have hsg : Sgs W2 (N0 + 1) [⟨#[60]⟩, ⟨#[60, 61]⟩, ⟨#[61]⟩, ⟨#[33, 61]⟩] := ⟨_, by rw [← hW2]; exact heap_last hWs.symm, fun j hj => match j, hj with
  | 0, _ => rfl
  | 1, _ => rfl
  | 2, _ => rfl
  | 3, _ => rfl⟩
 have hz : ([⟨#[60]⟩, ⟨#[60, 61]⟩, ⟨#[61]⟩, ⟨#[33, 61]⟩] : List ByteArray) = (sgs 2).map textOf := by
  simp only [sgs, List.map_cons, List.map_nil, lit1 60 (by decide), lit2 60 61 (by decide) (by decide), lit1 61 (by decide), lit2 33 61 (by decide) (by decide)]
  rfl
 have hs2 := hs.under hb
 have hent : ∀ args w, (callFunc 228 args).run Tryz.prog w = .ok (.enter 228 args) w := enters_of Tryz.func228 (by kernel_rfl) rfl
 have hlev := level_any (m0 := 1) (cs := 4) (r := 2) (by omega) hent hf hfl hs2 hL (by omega) hz hsg
 rw [show (((1 : Nat)) : Int) = 1 from rfl, show ([⟨#[60]⟩, ⟨#[60, 61]⟩, ⟨#[61]⟩, ⟨#[33, 61]⟩] : List ByteArray).length = 4 from rfl] at hlev
 have HLEV := Lib.hid hlev
 have HB := Lib.hid hb; have HB0 := Lib.hid hb0; have HS2 := Lib.hid hs2; have HN := Lib.hid hN0
 clear hlev hf hfl hs hL hb hb0 hs2 hsg hz hwb hwb2
 unfold ptr at *
 go_enter Tryz.func215, Tryz.ntmps215
 go_wp2_with fail
 refine HLEV.out.mono ?_
 rintro e w3 ⟨A, N, p, n, c, b, i3, rfl, hr3, ho3, ht3⟩
 obtain ⟨h3, hp⟩ := wrap HB.out HB0.out (by have := HN.out; omega) HS2.out hr3 ho3 ht3
 have HP := Lib.hid hp
 obtain ⟨a1, a2, a3, a4, a5, a6⟩ := h3.cells
 clear hr3 ho3 ht3 h3 hp
 go_wp2_with fail
 refine bodyPost_ret (v := .tuple #[.agg #[.int .u8 A, .int .i64 N, .slice p n c], .bool b]) (by simp [results, Tryz.f215, go_sem, a1, a2, a3]) rfl HP.out
set_option maxRecDepth 1000000 in
theorem row3_any {S : Src} {f : List Tok → Out} {L i : Nat} {w : World} (hf : ∀ (w' : World) (i' : Nat), Rs S w' i' → (S.at i').length ≤ L → Calls Tryz.prog 229 #[ptr S.rb] w' (PPost S (f (S.at i')) w')) (hfl : ∀ l, Less l.length (f l)) (hs : Rs S w i) (hL : (S.at i).length ≤ L) :
  Calls Tryz.prog 228 #[ptr S.rb] w (PPost S (rowO f 3 400 (S.at i)) w) := by
 obtain ⟨W, hW⟩ : ∃ W, w.alloc (.cells #[.int .u8 0, .int .i64 0, .slice none 0 0] 46) = W := ⟨_, rfl⟩
 obtain ⟨N0, hN0⟩ : ∃ N, w.heap.size = N := ⟨_, rfl⟩
 have hWs : W.heap.size = N0 + 1 := by rw [← hW]; simp [hN0]
 obtain ⟨W2, hW2⟩ : ∃ W2, W.alloc (.cells #[.string ⟨#[43]⟩, .string ⟨#[45]⟩] 9) = W2 := ⟨_, rfl⟩
 have hwb : Below w.heap.size w W := by rw [← hW]; exact (Below.refl _ _).alloc (Nat.le_refl _) _
 have hwb2 : Below W.heap.size W W2 := by rw [← hW2]; exact (Below.refl _ _).alloc (Nat.le_refl _) _
 have hb0 : Bx W2 N0 0 0 none 0 0 := Bx.under (w := W) (by rw [← hW]; exact heap_last hN0.symm) hwb2
 have hb : Below w.heap.size w W2 := hwb.trans (hwb2.mono hwb.size)
 have hsg : Sgs W2 (N0 + 1) [⟨#[43]⟩, ⟨#[45]⟩] := ⟨_, by rw [← hW2]; exact heap_last hWs.symm, fun j hj => match j, hj with
  | 0, _ => rfl
  | 1, _ => rfl⟩
 have hz : ([⟨#[43]⟩, ⟨#[45]⟩] : List ByteArray) = (sgs 3).map textOf := by
  simp only [sgs, List.map_cons, List.map_nil, lit1 43 (by decide), lit1 45 (by decide)]
  rfl
 have hs2 := hs.under hb
 have hent : ∀ args w, (callFunc 229 args).run Tryz.prog w = .ok (.enter 229 args) w := enters_of Tryz.func229 (by kernel_rfl) rfl
 have hlev := level_any (m0 := 400) (cs := 2) (r := 3) (by omega) hent hf hfl hs2 hL (by omega) hz hsg
 rw [show (((400 : Nat)) : Int) = 400 from rfl, show ([⟨#[43]⟩, ⟨#[45]⟩] : List ByteArray).length = 2 from rfl] at hlev
 have HLEV := Lib.hid hlev
 have HB := Lib.hid hb; have HB0 := Lib.hid hb0; have HS2 := Lib.hid hs2; have HN := Lib.hid hN0
 clear hlev hf hfl hs hL hb hb0 hs2 hsg hz hwb hwb2
 unfold ptr at *
 go_enter Tryz.func228, Tryz.ntmps228
 go_wp2_with fail
 refine HLEV.out.mono ?_
 rintro e w3 ⟨A, N, p, n, c, b, i3, rfl, hr3, ho3, ht3⟩
 obtain ⟨h3, hp⟩ := wrap HB.out HB0.out (by have := HN.out; omega) HS2.out hr3 ho3 ht3
 have HP := Lib.hid hp
 obtain ⟨a1, a2, a3, a4, a5, a6⟩ := h3.cells
 clear hr3 ho3 ht3 h3 hp
 go_wp2_with fail
 refine bodyPost_ret (v := .tuple #[.agg #[.int .u8 A, .int .i64 N, .slice p n c], .bool b]) (by simp [results, Tryz.f228, go_sem, a1, a2, a3]) rfl HP.out
set_option maxRecDepth 1000000 in
theorem row4_any {S : Src} {f : List Tok → Out} {L i : Nat} {w : World} (hf : ∀ (w' : World) (i' : Nat), Rs S w' i' → (S.at i').length ≤ L → Calls Tryz.prog 230 #[ptr S.rb] w' (PPost S (f (S.at i')) w')) (hfl : ∀ l, Less l.length (f l)) (hs : Rs S w i) (hL : (S.at i).length ≤ L) :
  Calls Tryz.prog 229 #[ptr S.rb] w (PPost S (rowO f 4 400 (S.at i)) w) := by
 obtain ⟨W, hW⟩ : ∃ W, w.alloc (.cells #[.int .u8 0, .int .i64 0, .slice none 0 0] 46) = W := ⟨_, rfl⟩
 obtain ⟨N0, hN0⟩ : ∃ N, w.heap.size = N := ⟨_, rfl⟩
 have hWs : W.heap.size = N0 + 1 := by rw [← hW]; simp [hN0]
 obtain ⟨W2, hW2⟩ : ∃ W2, W.alloc (.cells #[.string ⟨#[42]⟩, .string ⟨#[47]⟩, .string ⟨#[37]⟩] 9) = W2 := ⟨_, rfl⟩
 have hwb : Below w.heap.size w W := by rw [← hW]; exact (Below.refl _ _).alloc (Nat.le_refl _) _
 have hwb2 : Below W.heap.size W W2 := by rw [← hW2]; exact (Below.refl _ _).alloc (Nat.le_refl _) _
 have hb0 : Bx W2 N0 0 0 none 0 0 := Bx.under (w := W) (by rw [← hW]; exact heap_last hN0.symm) hwb2
 have hb : Below w.heap.size w W2 := hwb.trans (hwb2.mono hwb.size)
 have hsg : Sgs W2 (N0 + 1) [⟨#[42]⟩, ⟨#[47]⟩, ⟨#[37]⟩] := ⟨_, by rw [← hW2]; exact heap_last hWs.symm, fun j hj => match j, hj with
  | 0, _ => rfl
  | 1, _ => rfl
  | 2, _ => rfl⟩
 have hz : ([⟨#[42]⟩, ⟨#[47]⟩, ⟨#[37]⟩] : List ByteArray) = (sgs 4).map textOf := by
  simp only [sgs, List.map_cons, List.map_nil, lit1 42 (by decide), lit1 47 (by decide), lit1 37 (by decide)]
  rfl
 have hs2 := hs.under hb
 have hent : ∀ args w, (callFunc 230 args).run Tryz.prog w = .ok (.enter 230 args) w := enters_of Tryz.func230 (by kernel_rfl) rfl
 have hlev := level_any (m0 := 400) (cs := 3) (r := 4) (by omega) hent hf hfl hs2 hL (by omega) hz hsg
 rw [show (((400 : Nat)) : Int) = 400 from rfl, show ([⟨#[42]⟩, ⟨#[47]⟩, ⟨#[37]⟩] : List ByteArray).length = 3 from rfl] at hlev
 have HLEV := Lib.hid hlev
 have HB := Lib.hid hb; have HB0 := Lib.hid hb0; have HS2 := Lib.hid hs2; have HN := Lib.hid hN0
 clear hlev hf hfl hs hL hb hb0 hs2 hsg hz hwb hwb2
 unfold ptr at *
 go_enter Tryz.func229, Tryz.ntmps229
 go_wp2_with fail
 refine HLEV.out.mono ?_
 rintro e w3 ⟨A, N, p, n, c, b, i3, rfl, hr3, ho3, ht3⟩
 obtain ⟨h3, hp⟩ := wrap HB.out HB0.out (by have := HN.out; omega) HS2.out hr3 ho3 ht3
 have HP := Lib.hid hp
 obtain ⟨a1, a2, a3, a4, a5, a6⟩ := h3.cells
 clear hr3 ho3 ht3 h3 hp
 go_wp2_with fail
 refine bodyPost_ret (v := .tuple #[.agg #[.int .u8 A, .int .i64 N, .slice p n c], .bool b]) (by simp [results, Tryz.f229, go_sem, a1, a2, a3]) rfl HP.out
end
section
open Go.RowKit nam lex
theorem lies_one {w : World} {F : Nat → Prop} {b c1 n1 : Nat} {p1 : Option Addr} {x : Ex} (hF : F b) (hb : w.heap[b]? = some (.cells #[.int .u8 (x.op : Int), .int .i64 x.n, .slice p1 n1 c1] 46 (0, 0)))
  (h1 : Lies w F (.slice p1 n1 c1) x.args) : Lies w F (.slice (some ⟨b, 0, none⟩) 1 1) [x] := by
 refine .row b 1 1 _ [x] (fun _ => .slice p1 n1 c1) hF hb rfl ?_ ?_
 · intro i hi
   match i, hi with
   | 0, _ => exact ⟨rfl, rfl, rfl⟩
 · intro i hi
   match i, hi with
   | 0, _ => exact h1
def unO (f5 f6 : List Tok → Out) (l : List Tok) : Out :=
 if txt l = [45] then (match f5 l.tail with | .bad l' => .bad l' | .ok x l' => .ok (.mk 5 0 [x]) l') else if txt l = [33] then (match f5 l.tail with | .bad l' => .bad l' | .ok x l' => .ok (.mk 6 0 [x]) l') else f6 l
theorem un_end {S : Src} {f : List Tok → Out} {w W w1 w2 w3 w4 : World} {N0 N1 i0 i1 i2 o n c : Nat} {A N : Int} {p : Option Addr} {b : Bool} (hb : Below w.heap.size w W) (h0 : Bx W N0 0 0 none 0 0) (hN0 : w.heap.size = N0) (r0 : Rs S W i0) (ho1 : Only (Mine S) W w1) (r1 : Rs S w1 i1)
  (r2 : Rs S w2 i2) (ho2 : Only (Mine S) w1 w2) (ht : Tells S (From w1) (f (S.at i1)) w2 A N p n c b i2) (hN1 : w2.heap.size = N1) (hw3 : w2.alloc (.cells #[.int .u8 A, .int .i64 N, .slice p n c] 46) = w3) (hw4 : w3.alloc (.cells #[.int .u8 A, .int .i64 N, .slice p n c] 46) = w4) :
  Bx w4 N0 0 0 none 0 0 ∧ Bx w3 N1 A N p n c ∧ w3.heap.size = N1 + 1 ∧ PPost S (match f (S.at i1) with | .bad l' => .bad l' | .ok x l' => .ok (.mk o 0 [x]) l') w (.returned (.tuple #[.agg #[.int .u8 (o : Int), .int .i64 0, .slice (some ⟨N1 + 1, 0, none⟩) 1 1], .bool b])) (set3 w4 N0 (o : Int) 0 (some ⟨N1 + 1, 0, none⟩) 1 1) := by
 have e0 : Bx w1 N0 0 0 none 0 0 := h0.only ho1 r0
 have e1 : Bx w2 N0 0 0 none 0 0 := e0.only ho2 r1
 have hb3 : Below w2.heap.size w2 w3 := by rw [← hw3]; exact (Below.refl _ _).alloc (Nat.le_refl _) _
 have hb4 : Below w3.heap.size w3 w4 := by rw [← hw4]; exact (Below.refl _ _).alloc (Nat.le_refl _) _
 have hs3 : w3.heap.size = N1 + 1 := by rw [← hw3]; simp [hN1]
 have hb24 : Below w2.heap.size w2 w4 := hb3.trans (hb4.mono hb3.size)
 have e4 : Bx w4 N0 0 0 none 0 0 := e1.under hb24
 have l1 := e0.lt
 have l2 := h0.lt
 have z1 := ho1.size
 have z2 := ho2.size
 have z0 := hb.size
 refine ⟨e4, by rw [← hw3]; exact heap_last hN1.symm, hs3, (o : Int), 0, _, 1, 1, b, i2, rfl, (r2.under hb24).set3 e4, set3_only (((Only.of_below hb).then ho1).then (ho2.then (.of_below hb24))) (by omega), ?_⟩
 cases hfo : f (S.at i1) with
 | bad l => rw [hfo] at ht; exact ht
 | ok x l =>
  rw [hfo] at ht
  obtain ⟨t0, t1, t2, t3, t4, t5⟩ := ht
  refine ⟨t0, rfl, rfl, rfl, ?_, t5⟩
  have hrow : w4.heap[N1 + 1]? = some (.cells #[.int .u8 A, .int .i64 N, .slice p n c] 46 (0, 0)) := by rw [← hw4]; exact heap_last hs3.symm
  subst t1; subst t2; subst t3
  refine lies_one (x := x) (by unfold From; omega) ((set3_other (by omega)).trans hrow) (((t4.under hb24).frame fun k cc hk hcc => set3_other ?_).mono fun k hk => ?_)
  · unfold From at hk; omega
  · unfold From at *; omega
set_option maxHeartbeats 1600000 in
set_option maxRecDepth 1000000 in
theorem unary_any {S : Src} {f5 f6 : List Tok → Out} {L i : Nat} {w : World} (hf5 : ∀ (w' : World) (i' : Nat), Rs S w' i' → (S.at i').length < L → Calls Tryz.prog 230 #[ptr S.rb] w' (PPost S (f5 (S.at i')) w')) (hf6 : ∀ (w' : World) (i' : Nat), Rs S w' i' → (S.at i').length ≤ L → Calls Tryz.prog 232 #[ptr S.rb] w' (PPost S (f6 (S.at i')) w'))
  (hs : Rs S w i) (hL : (S.at i).length ≤ L) : Calls Tryz.prog 230 #[ptr S.rb] w (PPost S (unO f5 f6 (S.at i)) w) := by
 obtain ⟨W, hW⟩ : ∃ W, w.alloc (.cells #[.int .u8 0, .int .i64 0, .slice none 0 0] 46) = W := ⟨_, rfl⟩
 obtain ⟨N0, hN0⟩ : ∃ N, w.heap.size = N := ⟨_, rfl⟩
 have hwb : Below w.heap.size w W := by rw [← hW]; exact (Below.refl _ _).alloc (Nat.le_refl _) _
 have hb0 : Bx W N0 0 0 none 0 0 := by rw [← hW]; exact heap_last hN0.symm
 have hsW := hs.under hwb
 have t45 : textOf [45] = ⟨#[45]⟩ := lit1 45 (by decide)
 have t33 : textOf [33] = ⟨#[33]⟩ := lit1 33 (by decide)
 have HB := Lib.hid hwb; have HB0 := Lib.hid hb0; have HS := Lib.hid hsW; have HN := Lib.hid hN0; have H5 := Lib.hid hf5; have H6 := Lib.hid hf6; have HL := Lib.hid hL
 have HT45 := Lib.hid t45; have HT33 := Lib.hid t33
 clear hwb hb0 hs hsW hf5 hf6 t45 t33 hL
 obtain ⟨O, hO⟩ : ∃ O, unO f5 f6 (S.at i) = O := ⟨_, rfl⟩
 rw [hO]
 by_cases h45 : txt (S.at i) = [45]
 · have HO : Hid (O = match f5 (S.at (i + 1)) with | .bad l' => .bad l' | .ok x l' => .ok (.mk 5 0 [x]) l') := Lib.hid (by rw [← hO]; unfold unO; rw [if_pos h45, at_tail])
   have HC := Lib.hid (takes_yes HS.out (by simp) HT45.out h45)
   have HLT : Hid ((S.at (i + 1)).length < L) := Lib.hid (by have := HL.out; have := at_lt (S := S) (i := i) (by rw [h45]; simp); rw [at_len] at *; omega)
   clear hO h45
   unfold ptr at *
   go_enter Tryz.func230, Tryz.ntmps230
   go_wp2_with fail
   refine HC.out.mono ?_
   rintro e w1 ⟨rfl, hr1, ho1⟩
   have HR1 := Lib.hid hr1; have HO1 := Lib.hid ho1; clear hr1 ho1
   go_wp2_with fail
   refine (H5.out w1 (i + 1) HR1.out HLT.out).mono ?_
   rintro e w2 ⟨A, N, p, n, c, b, i2, rfl, hr2, ho2, ht2⟩
   obtain ⟨N1, hN1⟩ : ∃ N1, w2.heap.size = N1 := ⟨_, rfl⟩
   obtain ⟨w3, hw3⟩ : ∃ w3, w2.alloc (.cells #[.int .u8 A, .int .i64 N, .slice p n c] 46) = w3 := ⟨_, rfl⟩
   obtain ⟨w4, hw4⟩ : ∃ w4, w3.alloc (.cells #[.int .u8 A, .int .i64 N, .slice p n c] 46) = w4 := ⟨_, rfl⟩
   obtain ⟨e4, e3, hs3, hp⟩ := un_end (o := 5) HB.out HB0.out HN.out HS.out HO1.out HR1.out hr2 ho2 ht2 hN1 hw3 hw4
   rw [← HO.out] at hp
   have HP := Lib.hid hp
   obtain ⟨a1, a2, a3, a4, a5, a6⟩ := e4.cells
   obtain ⟨b1, b2, b3, _⟩ := e3.cells
   clear hr2 ho2 ht2 e4 e3 hp
   go_wp2_with fail
   refine bodyPost_ret (v := .tuple #[.agg #[.int .u8 5, .int .i64 0, .slice (some ⟨N1 + 1, 0, none⟩) 1 1], .bool b]) (by simp [results, Tryz.f230, go_sem, a1, a2, a3]) rfl HP.out
 · have HC := Lib.hid (takes_no HS.out (t := [45]) (by simp [okR]) HT45.out h45)
   by_cases h33 : txt (S.at i) = [33]
   · have HO : Hid (O = match f5 (S.at (i + 1)) with | .bad l' => .bad l' | .ok x l' => .ok (.mk 6 0 [x]) l') := Lib.hid (by rw [← hO]; unfold unO; rw [if_neg h45, if_pos h33, at_tail])
     have H33 := Lib.hid h33
     have HLT : Hid ((S.at (i + 1)).length < L) := Lib.hid (by have := HL.out; have := at_lt (S := S) (i := i) (by rw [h33]; simp); rw [at_len] at *; omega)
     clear hO h45 h33
     unfold ptr at *
     go_enter Tryz.func230, Tryz.ntmps230
     go_wp2_with fail
     refine HC.out.mono ?_
     rintro e w0 ⟨rfl, hr0, hb0⟩
     have HR0 := Lib.hid hr0; have HBB := Lib.hid hb0; clear hr0 hb0
     go_wp2_with fail
     refine (takes_yes HR0.out (by simp) HT33.out H33.out).mono ?_
     rintro e w1 ⟨rfl, hr1, ho1⟩
     have HR1 := Lib.hid hr1; have HO1 := Lib.hid ((Only.of_below HBB.out).then ho1); clear hr1 ho1
     go_wp2_with fail
     refine (H5.out w1 (i + 1) HR1.out HLT.out).mono ?_
     rintro e w2 ⟨A, N, p, n, c, b, i2, rfl, hr2, ho2, ht2⟩
     obtain ⟨N1, hN1⟩ : ∃ N1, w2.heap.size = N1 := ⟨_, rfl⟩
     obtain ⟨w3, hw3⟩ : ∃ w3, w2.alloc (.cells #[.int .u8 A, .int .i64 N, .slice p n c] 46) = w3 := ⟨_, rfl⟩
     obtain ⟨w4, hw4⟩ : ∃ w4, w3.alloc (.cells #[.int .u8 A, .int .i64 N, .slice p n c] 46) = w4 := ⟨_, rfl⟩
     obtain ⟨e4, e3, hs3, hp⟩ := un_end (o := 6) HB.out HB0.out HN.out HS.out HO1.out HR1.out hr2 ho2 ht2 hN1 hw3 hw4
     rw [← HO.out] at hp
     have HP := Lib.hid hp
     obtain ⟨a1, a2, a3, a4, a5, a6⟩ := e4.cells
     obtain ⟨b1, b2, b3, _⟩ := e3.cells
     clear hr2 ho2 ht2 e4 e3 hp
     go_wp2_with fail
     refine bodyPost_ret (v := .tuple #[.agg #[.int .u8 6, .int .i64 0, .slice (some ⟨N1 + 1, 0, none⟩) 1 1], .bool b]) (by simp [results, Tryz.f230, go_sem, a1, a2, a3]) rfl HP.out
   · have HO : Hid (O = f6 (S.at i)) := Lib.hid (by rw [← hO]; unfold unO; rw [if_neg h45, if_neg h33])
     have H33 := Lib.hid h33
     clear hO h45 h33
     unfold ptr at *
     go_enter Tryz.func230, Tryz.ntmps230
     go_wp2_with fail
     refine HC.out.mono ?_
     rintro e w0 ⟨rfl, hr0, hb0⟩
     have HR0 := Lib.hid hr0; have HBB := Lib.hid hb0; clear hr0 hb0
     go_wp2_with fail
     refine (takes_no HR0.out (t := [33]) (by simp [okR]) HT33.out H33.out).mono ?_
     rintro e w1 ⟨rfl, hr1, hb1⟩
     have HR1 := Lib.hid hr1; have HBC := Lib.hid (HBB.out.trans (hb1.mono HBB.out.size)); clear hr1 hb1
     go_wp2_with fail
     refine (H6.out w1 i HR1.out HL.out).mono ?_
     rintro e w2 ⟨A, N, p, n, c, b, i2, rfl, hr2, ho2, ht2⟩
     obtain ⟨h3, hp⟩ := wrap (HB.out.trans (HBC.out.mono HB.out.size)) (HB0.out.under HBC.out) (by have := HN.out; omega) HR1.out hr2 ho2 ht2
     rw [← HO.out] at hp
     have HP := Lib.hid hp
     obtain ⟨a1, a2, a3, a4, a5, a6⟩ := h3.cells
     clear hr2 ho2 ht2 h3 hp
     go_wp2_with fail
     refine bodyPost_ret (v := .tuple #[.agg #[.int .u8 A, .int .i64 N, .slice p n c], .bool b]) (by simp [results, Tryz.f230, go_sem, a1, a2, a3]) rfl HP.out
end
section
open Go.RowKit nam lex
theorem fin {S : Src} {O : Out} {w W w3 : World} {N0 j : Nat} {A N : Int} {p : Option Addr} {n c : Nat} {b : Bool} (hb : Below w.heap.size w W) (ho : Only (Mine S) W w3) (h3 : Bx w3 N0 0 0 none 0 0) (hN0 : w.heap.size ≤ N0) (hr : Rs S w3 j)
  (ht : b = true → ∃ x, O = .ok x (S.at j) ∧ A = (x.op : Int) ∧ N = x.n ∧ n = x.args.length ∧ Lies w3 (fun k => w.heap.size ≤ k ∧ k ≠ N0) (.slice p n c) x.args) (hf : b = false → O = .bad (S.at j)) :
  PPost S O w (.returned (.tuple #[.agg #[.int .u8 A, .int .i64 N, .slice p n c], .bool b])) (set3 w3 N0 A N p n c) := by
 refine ⟨A, N, p, n, c, b, j, rfl, hr.set3 h3, set3_only ((Only.of_below hb).then ho) hN0, ?_⟩
 cases b with
 | false => rw [hf rfl]; exact ⟨rfl, rfl⟩
 | true =>
  obtain ⟨x, h1, h2, h3, h4, h5⟩ := ht rfl
  rw [h1]
  exact ⟨rfl, h2, h3, h4, (h5.frame fun k cc hk hcc => set3_other hk.2).mono fun k hk => hk.1, rfl⟩
def Tb (w : World) (b : Nat) (l : List Tok) (X : ByteArray) (en : Nat) : Prop := w.heap[b]? = some (.cells #[.int .u8 (knd l : Int), .string X, .int .i64 (num l : Int), .int .i64 (placeOf l en : Int)] 241 (0, 0))
theorem Tb.only {S : Src} {w w' : World} {b i en : Nat} {l : List Tok} {X : ByteArray} (h : Tb w b l X en) (hb : Only (Mine S) w w') (hr : Rs S w i) : Tb w' b l X en :=
 (hb.block b (Array.getElem?_eq_some_iff.1 h).1 (fun e => by
  have h1 := hr.box
  have h2 : w.heap[b]? = _ := h
  rw [show b = S.rb from e, h1] at h2
  simp at h2)).trans h
theorem Tb.cells {w : World} {b en : Nat} {l : List Tok} {X : ByteArray} (h : Tb w b l X en) : w.cell? ⟨b, 0, none⟩ = some (.int .u8 (knd l : Int)) ∧ w.cell? ⟨b, 1, none⟩ = some (.string X) ∧ w.cell? ⟨b, 2, none⟩ = some (.int .i64 (num l : Int)) :=
 ⟨cell_of h rfl, cell_of h rfl, cell_of h rfl⟩
structure On (S : Src) (w W : World) (N0 N1 i : Nat) (X : ByteArray) (w2 : World) : Prop where
 below : Below w.heap.size w W
 only : Only (Mine S) W w2
 box : Bx w2 N0 0 0 none 0 0
 tok : Tb w2 N1 (S.at i) X S.en
 rs : Rs S w2 i
 n0 : w.heap.size = N0
theorem On.under {S : Src} {w W w2 w3 : World} {N0 N1 i : Nat} {X : ByteArray} (h : On S w W N0 N1 i X w2) (hb : Below w2.heap.size w2 w3) : On S w W N0 N1 i X w3 :=
 ⟨h.below, h.only.then (.of_below hb), h.box.under hb, h.tok.only (S := S) (.of_below hb) h.rs, h.rs.under hb, h.n0⟩
theorem On.leaf {S : Src} {w W w2 w3 : World} {N0 N1 i : Nat} {X : ByteArray} (h : On S w W N0 N1 i X w2) (ho : Only (Mine S) w2 w3) (hr : Rs S w3 (i + 1)) (o : Nat) (n : Int) :
  Bx w3 N0 0 0 none 0 0 ∧ PPost S (.ok (.mk o n []) (S.at (i + 1))) w (.returned (.tuple #[.agg #[.int .u8 (o : Int), .int .i64 n, .slice none 0 0], .bool true])) (set3 w3 N0 (o : Int) n none 0 0) := by
 have h3 := h.box.only ho h.rs
 exact ⟨h3, fin h.below (h.only.then ho) h3 (by have := h.n0; omega) hr (fun _ => ⟨_, rfl, rfl, rfl, rfl, .nil⟩) (fun h => by cases h)⟩
theorem On.none {S : Src} {w W w2 : World} {N0 N1 i : Nat} {X : ByteArray} (h : On S w W N0 N1 i X w2) :
  PPost S (.bad (S.at i)) w (.returned (.tuple #[.agg #[.int .u8 0, .int .i64 0, .slice none 0 0], .bool false])) (set3 w2 N0 0 0 none 0 0) :=
 fin h.below h.only h.box (by have := h.n0; omega) h.rs (fun h => by cases h) (fun _ => rfl)
theorem txt_kw {X : ByteArray} {l t : List Nat} (hl : ∀ r ∈ l, okR r) (ht : ∀ r ∈ t, okR r) {T : ByteArray} (hT : textOf t = T) (hX : textOf l = X) : (l = t → X = T) ∧ (l ≠ t → X ≠ T) :=
 ⟨fun h => by rw [← hX, h, hT], fun h => by rw [← hX]; exact txt_ne' hl ht hT h⟩
theorem PPost.drew {S : Src} {O : Out} {w w' : World} {e : Ending} (h : PPost S O w e w') : PPost S O w e w'.drew := by
 obtain ⟨A, N, p, n, c, b, i, h1, h2, h3, h4⟩ := h
 refine ⟨A, N, p, n, c, b, i, h1, h2.drew, h3.drew, ?_⟩
 cases O with
 | bad l => exact h4
 | ok x l => exact ⟨h4.1, h4.2.1, h4.2.2.1, h4.2.2.2.1, h4.2.2.2.2.1.under (Below.refl _ _).drew, h4.2.2.2.2.2⟩
structure Pr (S : Src) (f : List Tok → Out) (O : Out) (w W : World) (N0 i : Nat) (w3 w5 : World) (A N : Int) (p : Option Addr) (n c : Nat) (b : Bool) (i4 : Nat) : Prop where
 below : Below w.heap.size w W
 only1 : Only (Mine S) W w3
 only2 : Only (Mine S) w3 w5
 box : Bx w5 N0 0 0 none 0 0
 rs : Rs S w5 i4
 n0 : w.heap.size = N0
 tells : Tells S (From w3) (f (S.at (i + 1))) w5 A N p n c b i4
 out : O = (match f (S.at (i + 1)) with | .bad l' => .bad l' | .ok x l' => if txt l' = [41] then .ok x l'.tail else .bad l')
 lt : N0 < w3.heap.size
theorem Tells.under {S : Src} {F : Nat → Prop} {O : Out} {w w' : World} {A N : Int} {p : Option Addr} {n c : Nat} {b : Bool} {i : Nat} (h : Tells S F O w A N p n c b i) (hb : Below w.heap.size w w') : Tells S F O w' A N p n c b i := by
 cases O with
 | bad l => exact h
 | ok x l => exact ⟨h.1, h.2.1, h.2.2.1, h.2.2.2.1, h.2.2.2.2.1.under hb, h.2.2.2.2.2⟩
theorem Pr.drew {S : Src} {f : List Tok → Out} {O : Out} {w W : World} {N0 i : Nat} {w3 w5 : World} {A N : Int} {p : Option Addr} {n c i4 : Nat} {b : Bool} (h : Pr S f O w W N0 i w3 w5 A N p n c b i4) : Pr S f O w W N0 i w3 w5.drew A N p n c b i4 :=
 ⟨h.below, h.only1, h.only2.drew, h.box, h.rs.drew, h.n0, h.tells.under (Below.refl _ _).drew, h.out, h.lt⟩
theorem Pr.no {S : Src} {f : List Tok → Out} {O : Out} {w W : World} {N0 i : Nat} {w3 w5 : World} {A N : Int} {p : Option Addr} {n c i4 : Nat} (h : Pr S f O w W N0 i w3 w5 A N p n c false i4) :
  PPost S O w (.returned (.tuple #[.agg #[.int .u8 A, .int .i64 N, .slice p n c], .bool false])) (set3 w5 N0 A N p n c) := by
 refine fin h.below (h.only1.then h.only2) h.box (by have := h.n0; omega) h.rs (fun hb => by cases hb) (fun _ => ?_)
 have ht := h.tells
 rw [h.out]
 cases hf : f (S.at (i + 1)) with
 | bad l => rw [hf] at ht; rw [ht.2]
 | ok x l => rw [hf] at ht; cases ht.1
theorem Pr.wrong {S : Src} {f : List Tok → Out} {O : Out} {w W : World} {N0 i : Nat} {w3 w5 w6 : World} {A N : Int} {p : Option Addr} {n c i4 : Nat} (h : Pr S f O w W N0 i w3 w5 A N p n c true i4) (hn : txt (S.at i4) ≠ [41]) (hb : Below w5.heap.size w5 w6) :
  Bx w6 N0 0 0 none 0 0 ∧ PPost S O w (.returned (.tuple #[.agg #[.int .u8 A, .int .i64 N, .slice p n c], .bool false])) (set3 w6 N0 A N p n c) := by
 refine ⟨h.box.under hb, fin h.below ((h.only1.then h.only2).then (.of_below hb)) (h.box.under hb) (by have := h.n0; omega) (h.rs.under hb) (fun hb => by cases hb) (fun _ => ?_)⟩
 have ht := h.tells
 rw [h.out]
 cases hf : f (S.at (i + 1)) with
 | bad l => rw [hf] at ht; cases ht.1
 | ok x l =>
  rw [hf] at ht
  have e := ht.2.2.2.2.2
  simp only []
  rw [← e, if_neg hn]
theorem Pr.right {S : Src} {f : List Tok → Out} {O : Out} {w W : World} {N0 i : Nat} {w3 w5 w6 : World} {A N : Int} {p : Option Addr} {n c i4 : Nat} (h : Pr S f O w W N0 i w3 w5 A N p n c true i4) (hn : txt (S.at i4) = [41]) (ho : Only (Mine S) w5 w6) (hr : Rs S w6 (i4 + 1)) :
  Bx w6 N0 0 0 none 0 0 ∧ PPost S O w (.returned (.tuple #[.agg #[.int .u8 A, .int .i64 N, .slice p n c], .bool true])) (set3 w6 N0 A N p n c) := by
 have h6 := h.box.only ho h.rs
 refine ⟨h6, fin h.below ((h.only1.then h.only2).then ho) h6 (by have := h.n0; omega) hr (fun _ => ?_) (fun hb => by cases hb)⟩
 have ht := h.tells
 rw [h.out]
 cases hf : f (S.at (i + 1)) with
 | bad l => rw [hf] at ht; cases ht.1
 | ok x l =>
  rw [hf] at ht
  obtain ⟨t0, t1, t2, t3, t4, t5⟩ := ht
  simp only []
  refine ⟨x, by rw [← t5, if_pos hn, at_tail], t1, t2, t3, (t4.here.frame fun k cc hk hcc => ho.block k hk.2 (fun e => ?_)).mono fun k hk => ?_⟩
  · have := h.rs.box; rw [show k = S.rb from e, this] at hcc; simp at hcc
  · have hk1 : w3.heap.size ≤ k := hk.1
    have := h.lt; have := h.n0
    exact ⟨by omega, by omega⟩
def PrOut (S : Src) (O : Out) (w w5 : World) (N0 N5 : Nat) (A N : Int) (p : Option Addr) (n c : Nat) (r : Bool) : Prop :=
 Calls Tryz.prog 231 #[ptr S.rb, .string ⟨#[41]⟩] w5.drew fun e w6 => e = .returned (.bool r) ∧ w6.cell? ⟨N0, 0, none⟩ = some (.int .u8 0) ∧ w6.cell? ⟨N0, 1, none⟩ = some (.int .i64 0) ∧ w6.cell? ⟨N0, 2, none⟩ = some (.slice none 0 0) ∧
  w6.frozen? ⟨N0, 0, none⟩ = false ∧ w6.frozen? ⟨N0, 1, none⟩ = false ∧ w6.frozen? ⟨N0, 2, none⟩ = false ∧ w6.cell? ⟨N5, 0, none⟩ = some (.int .u8 A) ∧ w6.cell? ⟨N5, 1, none⟩ = some (.int .i64 N) ∧ w6.cell? ⟨N5, 2, none⟩ = some (.slice p n c) ∧
  Hid (PPost S O w (.returned (.tuple #[.agg #[.int .u8 A, .int .i64 N, .slice p n c], .bool r])) (set3 w6 N0 A N p n c))
theorem PrOut.of_yes {S : Src} {f : List Tok → Out} {O : Out} {w W : World} {N0 N5 i : Nat} {w3 w5 : World} {A N : Int} {p : Option Addr} {n c i4 : Nat} (h : Pr S f O w W N0 i w3 w5 A N p n c true i4) (h5 : Bx w5 N5 A N p n c) (hn : txt (S.at i4) = [41])
  (hc : Calls Tryz.prog 231 #[ptr S.rb, .string ⟨#[41]⟩] w5.drew fun e w' => e = .returned (.bool true) ∧ Rs S w' (i4 + 1) ∧ Only (Mine S) w5.drew w') : PrOut S O w w5 N0 N5 A N p n c true := by
 refine hc.mono ?_
 rintro e w6 ⟨rfl, hr6, ho6⟩
 obtain ⟨h6, hp⟩ := h.drew.right hn ho6 hr6
 obtain ⟨d1, d2, d3, d4, d5, d6⟩ := h6.cells
 have h56 : Bx w5.drew N5 A N p n c := h5
 obtain ⟨g1, g2, g3, _⟩ := (h56.only ho6 h.drew.rs).cells
 exact ⟨rfl, d1, d2, d3, d4, d5, d6, g1, g2, g3, Lib.hid hp⟩
theorem PrOut.of_no {S : Src} {f : List Tok → Out} {O : Out} {w W : World} {N0 N5 i : Nat} {w3 w5 : World} {A N : Int} {p : Option Addr} {n c i4 : Nat} (h : Pr S f O w W N0 i w3 w5 A N p n c true i4) (h5 : Bx w5 N5 A N p n c) (hn : txt (S.at i4) ≠ [41])
  (hc : Calls Tryz.prog 231 #[ptr S.rb, .string ⟨#[41]⟩] w5.drew fun e w' => e = .returned (.bool false) ∧ Rs S w' i4 ∧ Below w5.drew.heap.size w5.drew w') : PrOut S O w w5 N0 N5 A N p n c false := by
 refine hc.mono ?_
 rintro e w6 ⟨rfl, hr6, hb6⟩
 obtain ⟨h6, hp⟩ := h.drew.wrong hn hb6
 obtain ⟨d1, d2, d3, d4, d5, d6⟩ := h6.cells
 have h56 : Bx w5.drew N5 A N p n c := h5
 obtain ⟨g1, g2, g3, _⟩ := (h56.under hb6).cells
 exact ⟨rfl, d1, d2, d3, d4, d5, d6, g1, g2, g3, Lib.hid hp⟩
set_option maxHeartbeats 1600000 in
set_option maxRecDepth 1000000 in
theorem one_num {S : Src} {f : List Tok → Out} {L i : Nat} {w : World} (hs : Rs S w i) (hL : (S.at i).length ≤ L) (h2 : knd (S.at i) = 2) : Calls Tryz.prog 232 #[ptr S.rb] w (PPost S (oneP f (S.at i)) w) := by
 obtain ⟨W, hW⟩ : ∃ W, w.alloc (.cells #[.int .u8 0, .int .i64 0, .slice none 0 0] 46) = W := ⟨_, rfl⟩
 obtain ⟨N0, hN0⟩ : ∃ N, w.heap.size = N := ⟨_, rfl⟩
 have hwb : Below w.heap.size w W := by rw [← hW]; exact (Below.refl _ _).alloc (Nat.le_refl _) _
 have hb0 : Bx W N0 0 0 none 0 0 := by rw [← hW]; exact heap_last hN0.symm
 have hsW := hs.under hwb
 obtain ⟨X, hX⟩ : ∃ X, textOf (txt (S.at i)) = X := ⟨_, rfl⟩
 have HB := Lib.hid hwb; have HB0 := Lib.hid hb0; have HS := Lib.hid hsW; have HN := Lib.hid hN0; have HX := Lib.hid hX; have HL := Lib.hid hL
 have HT := Lib.hid (token_at hsW)
 unfold tokA at HT
 rw [hX] at HT
 clear hwb hb0 hs hsW hX hL
 obtain ⟨O, hO⟩ : ∃ O, oneP f (S.at i) = O := ⟨_, rfl⟩
 rw [hO]
 have HO : Hid (O = .ok (.mk 1 (num (S.at i)) []) (S.at (i + 1))) := Lib.hid (by rw [← hO]; unfold oneP; rw [if_pos h2, at_tail])
 clear hO
 have hkd : ((knd (S.at i) : Int) == 2) = true := by simp; omega
 unfold ptr at *
 go_enter Tryz.func232, Tryz.ntmps232
 go_wp2_with fail
 refine HT.out.mono ?_
 rintro e w1 ⟨rfl, hb1⟩
 obtain ⟨N1, hN1⟩ : ∃ N1, w1.heap.size = N1 := ⟨_, rfl⟩
 obtain ⟨w2, hw2⟩ : ∃ w2, w1.alloc (.cells #[.int .u8 (knd (S.at i) : Int), .string X, .int .i64 (num (S.at i) : Int), .int .i64 (placeOf (S.at i) S.en : Int)] 241) = w2 := ⟨_, rfl⟩
 have hon : On S w W N0 N1 i X w2 := by
  have h12 : Below w1.heap.size w1 w2 := by rw [← hw2]; exact (Below.refl _ _).alloc (Nat.le_refl _) _
  have hW2 : Below W.heap.size W w2 := hb1.trans (h12.mono hb1.size)
  exact ⟨HB.out, .of_below hW2, HB0.out.under hW2, by rw [← hw2]; exact heap_last hN1.symm, HS.out.under hW2, HN.out⟩
 have HON := Lib.hid hon
 obtain ⟨k0, k1, k2⟩ := hon.tok.cells
 clear hon hb1
 obtain ⟨c0, c1, c2, cf⟩ := HON.out.rs.cells
 have hlt : i < S.toks.length := by
  obtain ⟨t, l', hl⟩ := knd_ne (l := S.at i) (by omega)
  have := at_len S i
  rw [hl, List.length_cons] at this
  omega
 have hi4 : (i : Int) < 400 := by have := HON.out.rs.few; omega
 obtain ⟨w3, hw3⟩ : ∃ w3, w2.setCell ⟨S.rb, 1, none⟩ (.int .i64 ((i : Int) + 1)) = w3 := ⟨_, rfl⟩
 have hr3 : Rs S w3 (i + 1) := by rw [← hw3]; exact HON.out.rs.next hlt
 have ho3 : Only (Mine S) w2 w3 := by rw [← hw3]; exact Only.setCell _ _ _ _ rfl
 obtain ⟨h3, hp⟩ := HON.out.leaf ho3 hr3 1 (num (S.at i) : Int)
 rw [← HO.out] at hp
 have HP := Lib.hid hp
 obtain ⟨a1, a2, a3, a4, a5, a6⟩ := h3.cells
 obtain ⟨m0, m1, m2⟩ := (HON.out.tok.only ho3 HON.out.rs).cells
 have H2 := Lib.hid h2
 clear h2 hr3 ho3 h3 hp hlt
 go_wp2_with fail
 refine bodyPost_ret (v := .tuple #[.agg #[.int .u8 1, .int .i64 (num (S.at i) : Int), .slice none 0 0], .bool true]) (by simp [results, Tryz.f232, go_sem, a1, a2, a3]) rfl HP.out
set_option maxHeartbeats 1600000 in
set_option maxRecDepth 1000000 in
theorem one_key {S : Src} {f : List Tok → Out} {L i : Nat} {w : World} (hs : Rs S w i) (hL : (S.at i).length ≤ L) (h2 : knd (S.at i) ≠ 2)  (hy : txt (S.at i) = [107, 101, 121]) : Calls Tryz.prog 232 #[ptr S.rb] w (PPost S (oneP f (S.at i)) w) := by
 obtain ⟨W, hW⟩ : ∃ W, w.alloc (.cells #[.int .u8 0, .int .i64 0, .slice none 0 0] 46) = W := ⟨_, rfl⟩
 obtain ⟨N0, hN0⟩ : ∃ N, w.heap.size = N := ⟨_, rfl⟩
 have hwb : Below w.heap.size w W := by rw [← hW]; exact (Below.refl _ _).alloc (Nat.le_refl _) _
 have hb0 : Bx W N0 0 0 none 0 0 := by rw [← hW]; exact heap_last hN0.symm
 have hsW := hs.under hwb
 obtain ⟨X, hX⟩ : ∃ X, textOf (txt (S.at i)) = X := ⟨_, rfl⟩
 have HB := Lib.hid hwb; have HB0 := Lib.hid hb0; have HS := Lib.hid hsW; have HN := Lib.hid hN0; have HX := Lib.hid hX; have HL := Lib.hid hL
 have HT := Lib.hid (token_at hsW)
 unfold tokA at HT
 rw [hX] at HT
 clear hwb hb0 hs hsW hX hL
 obtain ⟨O, hO⟩ : ∃ O, oneP f (S.at i) = O := ⟨_, rfl⟩
 rw [hO]
 have HO : Hid (O = .ok (.mk 2 0 []) (S.at (i + 1))) := Lib.hid (by rw [← hO]; unfold oneP; rw [if_neg h2, if_pos hy, at_tail])
 clear hO
 have hkd : ((knd (S.at i) : Int) == 2) = false := by simp; omega
 have H2 := Lib.hid h2; clear h2
 have HY := Lib.hid hy; clear hy
 unfold ptr at *
 go_enter Tryz.func232, Tryz.ntmps232
 go_wp2_with fail
 refine HT.out.mono ?_
 rintro e w1 ⟨rfl, hb1⟩
 obtain ⟨N1, hN1⟩ : ∃ N1, w1.heap.size = N1 := ⟨_, rfl⟩
 obtain ⟨w2, hw2⟩ : ∃ w2, w1.alloc (.cells #[.int .u8 (knd (S.at i) : Int), .string X, .int .i64 (num (S.at i) : Int), .int .i64 (placeOf (S.at i) S.en : Int)] 241) = w2 := ⟨_, rfl⟩
 have hon : On S w W N0 N1 i X w2 := by
  have h12 : Below w1.heap.size w1 w2 := by rw [← hw2]; exact (Below.refl _ _).alloc (Nat.le_refl _) _
  have hW2 : Below W.heap.size W w2 := hb1.trans (h12.mono hb1.size)
  exact ⟨HB.out, .of_below hW2, HB0.out.under hW2, by rw [← hw2]; exact heap_last hN1.symm, HS.out.under hW2, HN.out⟩
 have HON := Lib.hid hon
 obtain ⟨k0, k1, k2⟩ := hon.tok.cells
 clear hon hb1
 go_wp2_with fail
 refine (takes_yes HON.out.rs (by simp) (lit3 107 101 121 (by decide) (by decide) (by decide)) HY.out).mono ?_
 rintro e w3 ⟨rfl, hr3, ho3⟩
 obtain ⟨h3, hp⟩ := HON.out.leaf ho3 hr3 2 0
 rw [← HO.out] at hp
 have HP := Lib.hid hp
 obtain ⟨a1, a2, a3, a4, a5, a6⟩ := h3.cells
 clear hr3 ho3 h3 hp
 go_wp2_with fail
 refine bodyPost_ret (v := .tuple #[.agg #[.int .u8 2, .int .i64 0, .slice none 0 0], .bool true]) (by simp [results, Tryz.f232, go_sem, a1, a2, a3]) rfl HP.out
set_option maxHeartbeats 1600000 in
set_option maxRecDepth 1000000 in
theorem one_val {S : Src} {f : List Tok → Out} {L i : Nat} {w : World} (hs : Rs S w i) (hL : (S.at i).length ≤ L) (h2 : knd (S.at i) ≠ 2) (e0 : txt (S.at i) ≠ [107, 101, 121]) (hy : txt (S.at i) = [118, 97, 108]) : Calls Tryz.prog 232 #[ptr S.rb] w (PPost S (oneP f (S.at i)) w) := by
 obtain ⟨W, hW⟩ : ∃ W, w.alloc (.cells #[.int .u8 0, .int .i64 0, .slice none 0 0] 46) = W := ⟨_, rfl⟩
 obtain ⟨N0, hN0⟩ : ∃ N, w.heap.size = N := ⟨_, rfl⟩
 have hwb : Below w.heap.size w W := by rw [← hW]; exact (Below.refl _ _).alloc (Nat.le_refl _) _
 have hb0 : Bx W N0 0 0 none 0 0 := by rw [← hW]; exact heap_last hN0.symm
 have hsW := hs.under hwb
 obtain ⟨X, hX⟩ : ∃ X, textOf (txt (S.at i)) = X := ⟨_, rfl⟩
 have HB := Lib.hid hwb; have HB0 := Lib.hid hb0; have HS := Lib.hid hsW; have HN := Lib.hid hN0; have HX := Lib.hid hX; have HL := Lib.hid hL
 have HT := Lib.hid (token_at hsW)
 unfold tokA at HT
 rw [hX] at HT
 clear hwb hb0 hs hsW hX hL
 obtain ⟨O, hO⟩ : ∃ O, oneP f (S.at i) = O := ⟨_, rfl⟩
 rw [hO]
 have HO : Hid (O = .ok (.mk 3 0 []) (S.at (i + 1))) := Lib.hid (by rw [← hO]; unfold oneP; rw [if_neg h2, if_neg e0, if_pos hy, at_tail])
 clear hO
 have hkd : ((knd (S.at i) : Int) == 2) = false := by simp; omega
 have H2 := Lib.hid h2; clear h2
 have HE0 := Lib.hid e0; clear e0
 have HY := Lib.hid hy; clear hy
 unfold ptr at *
 go_enter Tryz.func232, Tryz.ntmps232
 go_wp2_with fail
 refine HT.out.mono ?_
 rintro e w1 ⟨rfl, hb1⟩
 obtain ⟨N1, hN1⟩ : ∃ N1, w1.heap.size = N1 := ⟨_, rfl⟩
 obtain ⟨w2, hw2⟩ : ∃ w2, w1.alloc (.cells #[.int .u8 (knd (S.at i) : Int), .string X, .int .i64 (num (S.at i) : Int), .int .i64 (placeOf (S.at i) S.en : Int)] 241) = w2 := ⟨_, rfl⟩
 have hon : On S w W N0 N1 i X w2 := by
  have h12 : Below w1.heap.size w1 w2 := by rw [← hw2]; exact (Below.refl _ _).alloc (Nat.le_refl _) _
  have hW2 : Below W.heap.size W w2 := hb1.trans (h12.mono hb1.size)
  exact ⟨HB.out, .of_below hW2, HB0.out.under hW2, by rw [← hw2]; exact heap_last hN1.symm, HS.out.under hW2, HN.out⟩
 have HON := Lib.hid hon
 obtain ⟨k0, k1, k2⟩ := hon.tok.cells
 clear hon hb1
 go_wp2_with fail
 refine (takes_no HON.out.rs (t := [107, 101, 121]) (by simp [okR]) (lit3 107 101 121 (by decide) (by decide) (by decide)) HE0.out).mono ?_
 rintro e w3 ⟨rfl, hr3, hb3⟩
 have HON := Lib.hid (HON.out.under hb3)
 clear hr3 hb3
 go_wp2_with fail
 refine (takes_yes HON.out.rs (by simp) (lit3 118 97 108 (by decide) (by decide) (by decide)) HY.out).mono ?_
 rintro e w3 ⟨rfl, hr3, ho3⟩
 obtain ⟨h3, hp⟩ := HON.out.leaf ho3 hr3 3 0
 rw [← HO.out] at hp
 have HP := Lib.hid hp
 obtain ⟨a1, a2, a3, a4, a5, a6⟩ := h3.cells
 clear hr3 ho3 h3 hp
 go_wp2_with fail
 refine bodyPost_ret (v := .tuple #[.agg #[.int .u8 3, .int .i64 0, .slice none 0 0], .bool true]) (by simp [results, Tryz.f232, go_sem, a1, a2, a3]) rfl HP.out
set_option maxHeartbeats 1600000 in
set_option maxRecDepth 1000000 in
theorem one_acc {S : Src} {f : List Tok → Out} {L i : Nat} {w : World} (hs : Rs S w i) (hL : (S.at i).length ≤ L) (h2 : knd (S.at i) ≠ 2) (e0 : txt (S.at i) ≠ [107, 101, 121]) (e1 : txt (S.at i) ≠ [118, 97, 108]) (hy : txt (S.at i) = [97, 99, 99]) : Calls Tryz.prog 232 #[ptr S.rb] w (PPost S (oneP f (S.at i)) w) := by
 obtain ⟨W, hW⟩ : ∃ W, w.alloc (.cells #[.int .u8 0, .int .i64 0, .slice none 0 0] 46) = W := ⟨_, rfl⟩
 obtain ⟨N0, hN0⟩ : ∃ N, w.heap.size = N := ⟨_, rfl⟩
 have hwb : Below w.heap.size w W := by rw [← hW]; exact (Below.refl _ _).alloc (Nat.le_refl _) _
 have hb0 : Bx W N0 0 0 none 0 0 := by rw [← hW]; exact heap_last hN0.symm
 have hsW := hs.under hwb
 obtain ⟨X, hX⟩ : ∃ X, textOf (txt (S.at i)) = X := ⟨_, rfl⟩
 have HB := Lib.hid hwb; have HB0 := Lib.hid hb0; have HS := Lib.hid hsW; have HN := Lib.hid hN0; have HX := Lib.hid hX; have HL := Lib.hid hL
 have HT := Lib.hid (token_at hsW)
 unfold tokA at HT
 rw [hX] at HT
 clear hwb hb0 hs hsW hX hL
 obtain ⟨O, hO⟩ : ∃ O, oneP f (S.at i) = O := ⟨_, rfl⟩
 rw [hO]
 have HO : Hid (O = .ok (.mk 4 0 []) (S.at (i + 1))) := Lib.hid (by rw [← hO]; unfold oneP; rw [if_neg h2, if_neg e0, if_neg e1, if_pos hy, at_tail])
 clear hO
 have hkd : ((knd (S.at i) : Int) == 2) = false := by simp; omega
 have H2 := Lib.hid h2; clear h2
 have HE0 := Lib.hid e0; clear e0
 have HE1 := Lib.hid e1; clear e1
 have HY := Lib.hid hy; clear hy
 unfold ptr at *
 go_enter Tryz.func232, Tryz.ntmps232
 go_wp2_with fail
 refine HT.out.mono ?_
 rintro e w1 ⟨rfl, hb1⟩
 obtain ⟨N1, hN1⟩ : ∃ N1, w1.heap.size = N1 := ⟨_, rfl⟩
 obtain ⟨w2, hw2⟩ : ∃ w2, w1.alloc (.cells #[.int .u8 (knd (S.at i) : Int), .string X, .int .i64 (num (S.at i) : Int), .int .i64 (placeOf (S.at i) S.en : Int)] 241) = w2 := ⟨_, rfl⟩
 have hon : On S w W N0 N1 i X w2 := by
  have h12 : Below w1.heap.size w1 w2 := by rw [← hw2]; exact (Below.refl _ _).alloc (Nat.le_refl _) _
  have hW2 : Below W.heap.size W w2 := hb1.trans (h12.mono hb1.size)
  exact ⟨HB.out, .of_below hW2, HB0.out.under hW2, by rw [← hw2]; exact heap_last hN1.symm, HS.out.under hW2, HN.out⟩
 have HON := Lib.hid hon
 obtain ⟨k0, k1, k2⟩ := hon.tok.cells
 clear hon hb1
 go_wp2_with fail
 refine (takes_no HON.out.rs (t := [107, 101, 121]) (by simp [okR]) (lit3 107 101 121 (by decide) (by decide) (by decide)) HE0.out).mono ?_
 rintro e w3 ⟨rfl, hr3, hb3⟩
 have HON := Lib.hid (HON.out.under hb3)
 clear hr3 hb3
 go_wp2_with fail
 refine (takes_no HON.out.rs (t := [118, 97, 108]) (by simp [okR]) (lit3 118 97 108 (by decide) (by decide) (by decide)) HE1.out).mono ?_
 rintro e w3 ⟨rfl, hr3, hb3⟩
 have HON := Lib.hid (HON.out.under hb3)
 clear hr3 hb3
 go_wp2_with fail
 refine (takes_yes HON.out.rs (by simp) (lit3 97 99 99 (by decide) (by decide) (by decide)) HY.out).mono ?_
 rintro e w3 ⟨rfl, hr3, ho3⟩
 obtain ⟨h3, hp⟩ := HON.out.leaf ho3 hr3 4 0
 rw [← HO.out] at hp
 have HP := Lib.hid hp
 obtain ⟨a1, a2, a3, a4, a5, a6⟩ := h3.cells
 clear hr3 ho3 h3 hp
 go_wp2_with fail
 refine bodyPost_ret (v := .tuple #[.agg #[.int .u8 4, .int .i64 0, .slice none 0 0], .bool true]) (by simp [results, Tryz.f232, go_sem, a1, a2, a3]) rfl HP.out
set_option maxHeartbeats 1600000 in
set_option maxRecDepth 1000000 in
theorem one_none {S : Src} {f : List Tok → Out} {L i : Nat} {w : World} (hs : Rs S w i) (hL : (S.at i).length ≤ L) (h2 : knd (S.at i) ≠ 2) (e0 : txt (S.at i) ≠ [107, 101, 121]) (e1 : txt (S.at i) ≠ [118, 97, 108]) (e2 : txt (S.at i) ≠ [97, 99, 99]) (e3 : txt (S.at i) ≠ [40]) (e5 : txt (S.at i) ≠ wIf) : Calls Tryz.prog 232 #[ptr S.rb] w (PPost S (oneP f (S.at i)) w) := by
 obtain ⟨W, hW⟩ : ∃ W, w.alloc (.cells #[.int .u8 0, .int .i64 0, .slice none 0 0] 46) = W := ⟨_, rfl⟩
 obtain ⟨N0, hN0⟩ : ∃ N, w.heap.size = N := ⟨_, rfl⟩
 have hwb : Below w.heap.size w W := by rw [← hW]; exact (Below.refl _ _).alloc (Nat.le_refl _) _
 have hb0 : Bx W N0 0 0 none 0 0 := by rw [← hW]; exact heap_last hN0.symm
 have hsW := hs.under hwb
 obtain ⟨X, hX⟩ : ∃ X, textOf (txt (S.at i)) = X := ⟨_, rfl⟩
 have HB := Lib.hid hwb; have HB0 := Lib.hid hb0; have HS := Lib.hid hsW; have HN := Lib.hid hN0; have HX := Lib.hid hX; have HL := Lib.hid hL
 have HT := Lib.hid (token_at hsW)
 unfold tokA at HT
 rw [hX] at HT
 clear hwb hb0 hs hsW hX hL
 obtain ⟨O, hO⟩ : ∃ O, oneP f (S.at i) = O := ⟨_, rfl⟩
 rw [hO]
 have HO : Hid (O = .bad (S.at i)) := Lib.hid (by rw [← hO]; unfold oneP; rw [if_neg h2, if_neg e0, if_neg e1, if_neg e2, if_neg e3, if_neg e5])
 clear hO
 have hkd : ((knd (S.at i) : Int) == 2) = false := by simp; omega
 have H2 := Lib.hid h2; clear h2
 have HE0 := Lib.hid e0; clear e0
 have HE1 := Lib.hid e1; clear e1
 have HE2 := Lib.hid e2; clear e2
 have HE3 := Lib.hid e3; clear e3
 have hxi : (X.toList == [105, 102]) = false := by
  have h1 := (txt_kw (at_ok HS.out) (t := wIf) (by simp [wIf, okR]) (lit2 105 102 (by decide) (by decide)) HX.out).2 e5
  exact lex.str_ne (l := [105, 102]) h1
 clear e5
 unfold ptr at *
 go_enter Tryz.func232, Tryz.ntmps232
 go_wp2_with fail
 refine HT.out.mono ?_
 rintro e w1 ⟨rfl, hb1⟩
 obtain ⟨N1, hN1⟩ : ∃ N1, w1.heap.size = N1 := ⟨_, rfl⟩
 obtain ⟨w2, hw2⟩ : ∃ w2, w1.alloc (.cells #[.int .u8 (knd (S.at i) : Int), .string X, .int .i64 (num (S.at i) : Int), .int .i64 (placeOf (S.at i) S.en : Int)] 241) = w2 := ⟨_, rfl⟩
 have hon : On S w W N0 N1 i X w2 := by
  have h12 : Below w1.heap.size w1 w2 := by rw [← hw2]; exact (Below.refl _ _).alloc (Nat.le_refl _) _
  have hW2 : Below W.heap.size W w2 := hb1.trans (h12.mono hb1.size)
  exact ⟨HB.out, .of_below hW2, HB0.out.under hW2, by rw [← hw2]; exact heap_last hN1.symm, HS.out.under hW2, HN.out⟩
 have HON := Lib.hid hon
 obtain ⟨k0, k1, k2⟩ := hon.tok.cells
 clear hon hb1
 go_wp2_with fail
 refine (takes_no HON.out.rs (t := [107, 101, 121]) (by simp [okR]) (lit3 107 101 121 (by decide) (by decide) (by decide)) HE0.out).mono ?_
 rintro e w3 ⟨rfl, hr3, hb3⟩
 have HON := Lib.hid (HON.out.under hb3)
 clear hr3 hb3
 go_wp2_with fail
 refine (takes_no HON.out.rs (t := [118, 97, 108]) (by simp [okR]) (lit3 118 97 108 (by decide) (by decide) (by decide)) HE1.out).mono ?_
 rintro e w3 ⟨rfl, hr3, hb3⟩
 have HON := Lib.hid (HON.out.under hb3)
 clear hr3 hb3
 go_wp2_with fail
 refine (takes_no HON.out.rs (t := [97, 99, 99]) (by simp [okR]) (lit3 97 99 99 (by decide) (by decide) (by decide)) HE2.out).mono ?_
 rintro e w3 ⟨rfl, hr3, hb3⟩
 have HON := Lib.hid (HON.out.under hb3)
 clear hr3 hb3
 go_wp2_with fail
 refine (takes_no HON.out.rs (t := [40]) (by simp [okR]) (lit1 40 (by decide)) HE3.out).mono ?_
 rintro e w3 ⟨rfl, hr3, hb3⟩
 have HON := Lib.hid (HON.out.under hb3)
 clear hr3 hb3
 obtain ⟨m0, m1, m2⟩ := HON.out.tok.cells
 have HP := Lib.hid HON.out.none
 rw [← HO.out] at HP
 obtain ⟨a1, a2, a3, a4, a5, a6⟩ := HON.out.box.cells
 go_wp2_with fail
 refine bodyPost_ret (v := .tuple #[.agg #[.int .u8 0, .int .i64 0, .slice none 0 0], .bool false]) (by simp [results, Tryz.f232, go_sem, a1, a2, a3]) rfl HP.out
set_option maxHeartbeats 1600000 in
set_option maxRecDepth 1000000 in
theorem one_if {S : Src} {f : List Tok → Out} {L i : Nat} {w : World} (hch : ∀ (w' : World), Rs S w' i → Calls Tryz.prog 233 #[ptr S.rb] w' (PPost S (ifP f (S.at i)) w')) (hs : Rs S w i) (hL : (S.at i).length ≤ L) (h2 : knd (S.at i) ≠ 2) (e0 : txt (S.at i) ≠ [107, 101, 121]) (e1 : txt (S.at i) ≠ [118, 97, 108]) (e2 : txt (S.at i) ≠ [97, 99, 99]) (e3 : txt (S.at i) ≠ [40]) (e5 : txt (S.at i) = wIf) : Calls Tryz.prog 232 #[ptr S.rb] w (PPost S (oneP f (S.at i)) w) := by
 obtain ⟨W, hW⟩ : ∃ W, w.alloc (.cells #[.int .u8 0, .int .i64 0, .slice none 0 0] 46) = W := ⟨_, rfl⟩
 obtain ⟨N0, hN0⟩ : ∃ N, w.heap.size = N := ⟨_, rfl⟩
 have hwb : Below w.heap.size w W := by rw [← hW]; exact (Below.refl _ _).alloc (Nat.le_refl _) _
 have hb0 : Bx W N0 0 0 none 0 0 := by rw [← hW]; exact heap_last hN0.symm
 have hsW := hs.under hwb
 obtain ⟨X, hX⟩ : ∃ X, textOf (txt (S.at i)) = X := ⟨_, rfl⟩
 have HB := Lib.hid hwb; have HB0 := Lib.hid hb0; have HS := Lib.hid hsW; have HN := Lib.hid hN0; have HX := Lib.hid hX; have HL := Lib.hid hL
 have HT := Lib.hid (token_at hsW)
 unfold tokA at HT
 rw [hX] at HT
 clear hwb hb0 hs hsW hX hL
 obtain ⟨O, hO⟩ : ∃ O, oneP f (S.at i) = O := ⟨_, rfl⟩
 rw [hO]
 have HO : Hid (O = ifP f (S.at i)) := Lib.hid (by rw [← hO]; unfold oneP; rw [if_neg h2, if_neg e0, if_neg e1, if_neg e2, if_neg e3, if_pos e5])
 clear hO
 have hkd : ((knd (S.at i) : Int) == 2) = false := by simp; omega
 have H2 := Lib.hid h2; clear h2
 have HE0 := Lib.hid e0; clear e0
 have HE1 := Lib.hid e1; clear e1
 have HE2 := Lib.hid e2; clear e2
 have HE3 := Lib.hid e3; clear e3
 have hxi : (X.toList == [105, 102]) = true := by
  have h1 := (txt_kw (at_ok HS.out) (t := wIf) (by simp [wIf, okR]) (lit2 105 102 (by decide) (by decide)) HX.out).1 e5
  rw [h1, ByteArray.toList_eq]; rfl
 have HCH := Lib.hid hch
 clear e5 hch
 unfold ptr at *
 go_enter Tryz.func232, Tryz.ntmps232
 go_wp2_with fail
 refine HT.out.mono ?_
 rintro e w1 ⟨rfl, hb1⟩
 obtain ⟨N1, hN1⟩ : ∃ N1, w1.heap.size = N1 := ⟨_, rfl⟩
 obtain ⟨w2, hw2⟩ : ∃ w2, w1.alloc (.cells #[.int .u8 (knd (S.at i) : Int), .string X, .int .i64 (num (S.at i) : Int), .int .i64 (placeOf (S.at i) S.en : Int)] 241) = w2 := ⟨_, rfl⟩
 have hon : On S w W N0 N1 i X w2 := by
  have h12 : Below w1.heap.size w1 w2 := by rw [← hw2]; exact (Below.refl _ _).alloc (Nat.le_refl _) _
  have hW2 : Below W.heap.size W w2 := hb1.trans (h12.mono hb1.size)
  exact ⟨HB.out, .of_below hW2, HB0.out.under hW2, by rw [← hw2]; exact heap_last hN1.symm, HS.out.under hW2, HN.out⟩
 have HON := Lib.hid hon
 obtain ⟨k0, k1, k2⟩ := hon.tok.cells
 clear hon hb1
 go_wp2_with fail
 refine (takes_no HON.out.rs (t := [107, 101, 121]) (by simp [okR]) (lit3 107 101 121 (by decide) (by decide) (by decide)) HE0.out).mono ?_
 rintro e w3 ⟨rfl, hr3, hb3⟩
 have HON := Lib.hid (HON.out.under hb3)
 clear hr3 hb3
 go_wp2_with fail
 refine (takes_no HON.out.rs (t := [118, 97, 108]) (by simp [okR]) (lit3 118 97 108 (by decide) (by decide) (by decide)) HE1.out).mono ?_
 rintro e w3 ⟨rfl, hr3, hb3⟩
 have HON := Lib.hid (HON.out.under hb3)
 clear hr3 hb3
 go_wp2_with fail
 refine (takes_no HON.out.rs (t := [97, 99, 99]) (by simp [okR]) (lit3 97 99 99 (by decide) (by decide) (by decide)) HE2.out).mono ?_
 rintro e w3 ⟨rfl, hr3, hb3⟩
 have HON := Lib.hid (HON.out.under hb3)
 clear hr3 hb3
 go_wp2_with fail
 refine (takes_no HON.out.rs (t := [40]) (by simp [okR]) (lit1 40 (by decide)) HE3.out).mono ?_
 rintro e w3 ⟨rfl, hr3, hb3⟩
 have HON := Lib.hid (HON.out.under hb3)
 clear hr3 hb3
 obtain ⟨m0, m1, m2⟩ := HON.out.tok.cells
 go_wp2_with fail
 refine (HCH.out _ HON.out.rs).mono ?_
 rintro e w4 ⟨A, N, p, n, c, b, i4, rfl, hr4, ho4, ht4⟩
 rw [← HO.out] at ht4
 have h4 := HON.out.box.only ho4 HON.out.rs
 have HP : Hid (PPost S O w (.returned (.tuple #[.agg #[.int .u8 A, .int .i64 N, .slice p n c], .bool b])) (set3 w4 N0 A N p n c)) := Lib.hid (fin HON.out.below (HON.out.only.then ho4) h4 (by have := HON.out.n0; omega) hr4 (fun hb => by
  cases hOo : O with
  | bad l => rw [hOo] at ht4; rw [ht4.1] at hb; cases hb
  | ok x l =>
   rw [hOo] at ht4
   obtain ⟨t0, t1, t2, t3, t4, t5⟩ := ht4
   refine ⟨x, by rw [t5], t1, t2, t3, t4.mono fun k hk => ?_⟩
   have z1 := HON.out.below.size; have z2 := HON.out.only.size; have z3 := HON.out.box.lt; have z4 := HON.out.n0
   unfold From at hk
   exact ⟨by omega, by omega⟩) (fun hb => by
  cases hOo : O with
  | bad l => rw [hOo] at ht4; rw [ht4.2]
  | ok x l => rw [hOo] at ht4; rw [ht4.1] at hb; cases hb))
 obtain ⟨a1, a2, a3, a4, a5, a6⟩ := h4.cells
 clear hr4 ho4 ht4 h4
 go_wp2_with fail
 refine bodyPost_ret (v := .tuple #[.agg #[.int .u8 A, .int .i64 N, .slice p n c], .bool b]) (by simp [results, Tryz.f232, go_sem, a1, a2, a3]) rfl HP.out
set_option maxHeartbeats 1600000 in
set_option maxRecDepth 1000000 in
theorem one_paren {S : Src} {f : List Tok → Out} {L i : Nat} {w : World} (hf : ∀ (w' : World) (i' : Nat), Rs S w' i' → (S.at i').length < L → Calls Tryz.prog 162 #[ptr S.rb] w' (PPost S (f (S.at i')) w')) (hs : Rs S w i) (hL : (S.at i).length ≤ L) (h2 : knd (S.at i) ≠ 2) (e0 : txt (S.at i) ≠ [107, 101, 121]) (e1 : txt (S.at i) ≠ [118, 97, 108]) (e2 : txt (S.at i) ≠ [97, 99, 99]) (hy : txt (S.at i) = [40]) : Calls Tryz.prog 232 #[ptr S.rb] w (PPost S (oneP f (S.at i)) w) := by
 obtain ⟨W, hW⟩ : ∃ W, w.alloc (.cells #[.int .u8 0, .int .i64 0, .slice none 0 0] 46) = W := ⟨_, rfl⟩
 obtain ⟨N0, hN0⟩ : ∃ N, w.heap.size = N := ⟨_, rfl⟩
 have hwb : Below w.heap.size w W := by rw [← hW]; exact (Below.refl _ _).alloc (Nat.le_refl _) _
 have hb0 : Bx W N0 0 0 none 0 0 := by rw [← hW]; exact heap_last hN0.symm
 have hsW := hs.under hwb
 obtain ⟨X, hX⟩ : ∃ X, textOf (txt (S.at i)) = X := ⟨_, rfl⟩
 have HB := Lib.hid hwb; have HB0 := Lib.hid hb0; have HS := Lib.hid hsW; have HN := Lib.hid hN0; have HX := Lib.hid hX; have HL := Lib.hid hL
 have HT := Lib.hid (token_at hsW)
 unfold tokA at HT
 rw [hX] at HT
 clear hwb hb0 hs hsW hX hL
 obtain ⟨O, hO⟩ : ∃ O, oneP f (S.at i) = O := ⟨_, rfl⟩
 rw [hO]
 have HO : Hid (O = (match f (S.at (i + 1)) with | .bad l' => .bad l' | .ok x l' => if txt l' = [41] then .ok x l'.tail else .bad l')) := Lib.hid (by rw [← hO]; unfold oneP; rw [if_neg h2, if_neg e0, if_neg e1, if_neg e2, if_pos hy, at_tail]; rfl)
 clear hO
 have hkd : ((knd (S.at i) : Int) == 2) = false := by simp; omega
 have H2 := Lib.hid h2; clear h2
 have HE0 := Lib.hid e0; clear e0
 have HE1 := Lib.hid e1; clear e1
 have HE2 := Lib.hid e2; clear e2
 have HY := Lib.hid hy; have HF := Lib.hid hf; clear hy hf
 have HLT : Hid ((S.at (i + 1)).length < L) := Lib.hid (by have := HL.out; have := at_lt (S := S) (i := i) (by rw [HY.out]; simp); rw [at_len] at *; omega)
 unfold ptr at *
 go_enter Tryz.func232, Tryz.ntmps232
 go_wp2_with fail
 refine HT.out.mono ?_
 rintro e w1 ⟨rfl, hb1⟩
 obtain ⟨N1, hN1⟩ : ∃ N1, w1.heap.size = N1 := ⟨_, rfl⟩
 obtain ⟨w2, hw2⟩ : ∃ w2, w1.alloc (.cells #[.int .u8 (knd (S.at i) : Int), .string X, .int .i64 (num (S.at i) : Int), .int .i64 (placeOf (S.at i) S.en : Int)] 241) = w2 := ⟨_, rfl⟩
 have hon : On S w W N0 N1 i X w2 := by
  have h12 : Below w1.heap.size w1 w2 := by rw [← hw2]; exact (Below.refl _ _).alloc (Nat.le_refl _) _
  have hW2 : Below W.heap.size W w2 := hb1.trans (h12.mono hb1.size)
  exact ⟨HB.out, .of_below hW2, HB0.out.under hW2, by rw [← hw2]; exact heap_last hN1.symm, HS.out.under hW2, HN.out⟩
 have HON := Lib.hid hon
 obtain ⟨k0, k1, k2⟩ := hon.tok.cells
 clear hon hb1
 go_wp2_with fail
 refine (takes_no HON.out.rs (t := [107, 101, 121]) (by simp [okR]) (lit3 107 101 121 (by decide) (by decide) (by decide)) HE0.out).mono ?_
 rintro e w3 ⟨rfl, hr3, hb3⟩
 have HON := Lib.hid (HON.out.under hb3)
 clear hr3 hb3
 go_wp2_with fail
 refine (takes_no HON.out.rs (t := [118, 97, 108]) (by simp [okR]) (lit3 118 97 108 (by decide) (by decide) (by decide)) HE1.out).mono ?_
 rintro e w3 ⟨rfl, hr3, hb3⟩
 have HON := Lib.hid (HON.out.under hb3)
 clear hr3 hb3
 go_wp2_with fail
 refine (takes_no HON.out.rs (t := [97, 99, 99]) (by simp [okR]) (lit3 97 99 99 (by decide) (by decide) (by decide)) HE2.out).mono ?_
 rintro e w3 ⟨rfl, hr3, hb3⟩
 have HON := Lib.hid (HON.out.under hb3)
 clear hr3 hb3
 go_wp2_with fail
 refine (takes_yes HON.out.rs (by simp) (lit1 40 (by decide)) HY.out).mono ?_
 rintro e w3 ⟨rfl, hr3, ho3⟩
 have HR3 := Lib.hid hr3; have HO3 := Lib.hid ho3; clear hr3 ho3
 go_wp2_with fail
 refine (HF.out w3 (i + 1) HR3.out HLT.out).mono ?_
 rintro e w4 ⟨A, N, p, n, c, b, i4, rfl, hr4, ho4, ht4⟩
 obtain ⟨N5, hN5⟩ : ∃ N5, w4.heap.size = N5 := ⟨_, rfl⟩
 obtain ⟨w5, hw5⟩ : ∃ w5, w4.alloc (.cells #[.int .u8 A, .int .i64 N, .slice p n c] 46) = w5 := ⟨_, rfl⟩
 have h45 : Below w4.heap.size w4 w5 := by rw [← hw5]; exact (Below.refl _ _).alloc (Nat.le_refl _) _
 have hpr : Pr S f O w W N0 i w3 w5 A N p n c b i4 := ⟨HON.out.below, (HON.out.only.then HO3.out), (ho4.then (.of_below h45)), ((HON.out.box.only HO3.out HON.out.rs).only ho4 HR3.out).under h45, hr4.under h45, HON.out.n0, ht4.under h45, HO.out, (HON.out.box.only HO3.out HON.out.rs).lt⟩
 have hb5 : Bx w5 N5 A N p n c := by rw [← hw5]; exact heap_last hN5.symm
 have HPR := Lib.hid hpr
 obtain ⟨a1, a2, a3, a4, a5, a6⟩ := hpr.box.cells
 obtain ⟨b1, b2, b3, _⟩ := hb5.cells
 clear hr4 ho4 ht4 hpr h45
 cases b with
 | false =>
  have HP := Lib.hid (HPR.out.no)
  clear hb5
  go_wp2_with fail
  go_region
  all_goals (go_wp2_with fail; refine bodyPost_ret (v := .tuple #[.agg #[.int .u8 A, .int .i64 N, .slice p n c], .bool false]) (by simp [results, Tryz.f232, go_sem, a1, a2, a3]) rfl HP.out.drew)
 | true =>
  by_cases h41 : txt (S.at i4) = [41]
  · have HC := Lib.hid (PrOut.of_yes HPR.out hb5 h41 (takes_yes HPR.out.drew.rs (by simp) (lit1 41 (by decide)) h41))
    unfold PrOut at HC
    clear h41 hb5
    unfold ptr at HC
    go_wp2_with fail
    go_region_with (go_at_call 231; (refine HC.out.mono ?_); rintro e w6 ⟨rfl, d1, d2, d3, d4, d5, d6, g1, g2, g3, hp⟩)
    all_goals (go_wp2_with fail; refine bodyPost_ret (v := .tuple #[.agg #[.int .u8 A, .int .i64 N, .slice p n c], .bool true]) (by simp [results, Tryz.f232, go_sem, d1, d2, d3]) rfl (by first | exact hp.out | exact hp.out.drew))
  · have HC := Lib.hid (PrOut.of_no HPR.out hb5 h41 (takes_no HPR.out.drew.rs (t := [41]) (by simp [okR]) (lit1 41 (by decide)) h41))
    unfold PrOut at HC
    clear h41 hb5
    unfold ptr at HC
    go_wp2_with fail
    go_region_with (go_at_call 231; (refine HC.out.mono ?_); rintro e w6 ⟨rfl, d1, d2, d3, d4, d5, d6, g1, g2, g3, hp⟩)
    all_goals (go_wp2_with fail; refine bodyPost_ret (v := .tuple #[.agg #[.int .u8 A, .int .i64 N, .slice p n c], .bool false]) (by simp [results, Tryz.f232, go_sem, d1, d2, d3]) rfl (by first | exact hp.out | exact hp.out.drew))
end
end Go.Proofs.YtepdecnegihhhaaGreatDoor.exp

/- What or, and, cmp, sum, term answer. What unary answers. -/
import Derived.Test.YtffhmbiamkbchaaDoorExYa
section
namespace Go.Proofs.YtffhmbiamkbchaaDoor.exp
set_option linter.unusedSimpArgs false
set_option linter.unusedVariables false
open Go.RowKit nam lex

/-- What a callee tells, handed on. -/
theorem wrap {S : Src} {O : Out} {w W2 w3 : World} {N0 i0 i : Nat} {A N : Int} {p : Option Addr} {n c : Nat} {b : Bool} (hb : Below w.heap.size w W2) (h0 : Bx W2 N0 0 0 none 0 0) (hN0 : w.heap.size ≤ N0) (hs : Rs S W2 i0) (hr : Rs S w3 i) (ho : Only (Mine S) W2 w3) (ht : Tells S (From W2) O w3 A N p n c b i) :
    Bx w3 N0 0 0 none 0 0 ∧ PPost S O w (.returned (.tuple #[.agg #[.int .u8 A, .int .i64 N, .slice p n c], .bool b])) (set3 w3 N0 A N p n c) := by
  have h3 : Bx w3 N0 0 0 none 0 0 := h0.only ho hs
  have hsz := hb.size
  have hlt := h0.lt
  refine ⟨h3, A, N, p, n, c, b, i, rfl, hr.set3 h3, set3_only ((Only.of_below hb).then ho) hN0, ?_⟩
  cases O with
  | bad l => exact ht
  | ok x l =>
    obtain ⟨t0, t1, t2, t3, t4, t5⟩ := ht
    refine ⟨t0, t1, t2, t3, (t4.frame fun k cc hk hcc => set3_other (fun e => ?_)).mono fun k hk => ?_, t5⟩
    · unfold From at hk; omega
    · unfold From at *; omega

set_option maxRecDepth 1000000 in
theorem row0_any {S : Src} {f : List Tok → Out} {L i : Nat} {w : World} (hf : ∀ (w' : World) (i' : Nat), Rs S w' i' → (S.at i').length ≤ L → Calls Tryd.prog 54 #[ptr S.rb] w' (PPost S (f (S.at i')) w')) (hfl : ∀ l, Less l.length (f l)) (hs : Rs S w i) (hL : (S.at i).length ≤ L) :
    Calls Tryd.prog 36 #[ptr S.rb] w (PPost S (rowO f 0 400 (S.at i)) w) := by
  obtain ⟨W, hW⟩ : ∃ W, w.alloc (.cells #[.int .u8 0, .int .i64 0, .slice none 0 0] 27) = W := ⟨_, rfl⟩
  obtain ⟨N0, hN0⟩ : ∃ N, w.heap.size = N := ⟨_, rfl⟩
  have hWs : W.heap.size = N0 + 1 := by rw [← hW]; simp [hN0]
  obtain ⟨W2, hW2⟩ : ∃ W2, W.alloc (.cells #[.string ⟨#[124]⟩] 9) = W2 := ⟨_, rfl⟩
  have hwb : Below w.heap.size w W := by rw [← hW]; exact (Below.refl _ _).alloc (Nat.le_refl _) _
  have hwb2 : Below W.heap.size W W2 := by rw [← hW2]; exact (Below.refl _ _).alloc (Nat.le_refl _) _
  have hb0 : Bx W2 N0 0 0 none 0 0 := Bx.under (w := W) (by rw [← hW]; exact heap_last hN0.symm) hwb2
  have hb : Below w.heap.size w W2 := hwb.trans (hwb2.mono hwb.size)
  have hsg : Sgs W2 (N0 + 1) [⟨#[124]⟩] := ⟨_, by rw [← hW2]; exact heap_last hWs.symm, fun j hj => match j, hj with
    | 0, _ => rfl⟩
  have hz : ([⟨#[124]⟩] : List ByteArray) = (sgs 0).map textOf := by
    simp only [sgs, List.map_cons, List.map_nil, lit1 124 (by decide)]
    rfl
  have hs2 := hs.under hb
  have hent : ∀ args w, (callFunc 54 args).run Tryd.prog w = .ok (.enter 54 args) w := enters_of Tryd.func54 (by kernel_rfl) rfl
  have hlev := level_any (m0 := 400) (cs := 1) (r := 0) (by omega) hent hf hfl hs2 hL (by omega) hz hsg
  rw [show (((400 : Nat)) : Int) = 400 from rfl, show ([⟨#[124]⟩] : List ByteArray).length = 1 from rfl] at hlev
  have HLEV := Lib.hid hlev
  have HB := Lib.hid hb; have HB0 := Lib.hid hb0; have HS2 := Lib.hid hs2; have HN := Lib.hid hN0
  clear hlev hf hfl hs hL hb hb0 hs2 hsg hz hwb hwb2
  unfold ptr at *
  go_enter Tryd.func36, Tryd.ntmps36
  go_wp2_with fail
  refine HLEV.out.mono ?_
  rintro e w3 ⟨A, N, p, n, c, b, i3, rfl, hr3, ho3, ht3⟩
  obtain ⟨h3, hp⟩ := wrap HB.out HB0.out (by have := HN.out; omega) HS2.out hr3 ho3 ht3
  have HP := Lib.hid hp
  obtain ⟨a1, a2, a3, a4, a5, a6⟩ := h3.cells
  clear hr3 ho3 ht3 h3 hp
  go_wp2_with fail
  refine bodyPost_ret (v := .tuple #[.agg #[.int .u8 A, .int .i64 N, .slice p n c], .bool b]) (by simp [results, Tryd.f36, go_sem, a1, a2, a3]) rfl HP.out

set_option maxRecDepth 1000000 in
theorem row1_any {S : Src} {f : List Tok → Out} {L i : Nat} {w : World} (hf : ∀ (w' : World) (i' : Nat), Rs S w' i' → (S.at i').length ≤ L → Calls Tryd.prog 71 #[ptr S.rb] w' (PPost S (f (S.at i')) w')) (hfl : ∀ l, Less l.length (f l)) (hs : Rs S w i) (hL : (S.at i).length ≤ L) :
    Calls Tryd.prog 54 #[ptr S.rb] w (PPost S (rowO f 1 400 (S.at i)) w) := by
  obtain ⟨W, hW⟩ : ∃ W, w.alloc (.cells #[.int .u8 0, .int .i64 0, .slice none 0 0] 27) = W := ⟨_, rfl⟩
  obtain ⟨N0, hN0⟩ : ∃ N, w.heap.size = N := ⟨_, rfl⟩
  have hWs : W.heap.size = N0 + 1 := by rw [← hW]; simp [hN0]
  obtain ⟨W2, hW2⟩ : ∃ W2, W.alloc (.cells #[.string ⟨#[38]⟩] 9) = W2 := ⟨_, rfl⟩
  have hwb : Below w.heap.size w W := by rw [← hW]; exact (Below.refl _ _).alloc (Nat.le_refl _) _
  have hwb2 : Below W.heap.size W W2 := by rw [← hW2]; exact (Below.refl _ _).alloc (Nat.le_refl _) _
  have hb0 : Bx W2 N0 0 0 none 0 0 := Bx.under (w := W) (by rw [← hW]; exact heap_last hN0.symm) hwb2
  have hb : Below w.heap.size w W2 := hwb.trans (hwb2.mono hwb.size)
  have hsg : Sgs W2 (N0 + 1) [⟨#[38]⟩] := ⟨_, by rw [← hW2]; exact heap_last hWs.symm, fun j hj => match j, hj with
    | 0, _ => rfl⟩
  have hz : ([⟨#[38]⟩] : List ByteArray) = (sgs 1).map textOf := by
    simp only [sgs, List.map_cons, List.map_nil, lit1 38 (by decide)]
    rfl
  have hs2 := hs.under hb
  have hent : ∀ args w, (callFunc 71 args).run Tryd.prog w = .ok (.enter 71 args) w := enters_of Tryd.func71 (by kernel_rfl) rfl
  have hlev := level_any (m0 := 400) (cs := 1) (r := 1) (by omega) hent hf hfl hs2 hL (by omega) hz hsg
  rw [show (((400 : Nat)) : Int) = 400 from rfl, show ([⟨#[38]⟩] : List ByteArray).length = 1 from rfl] at hlev
  have HLEV := Lib.hid hlev
  have HB := Lib.hid hb; have HB0 := Lib.hid hb0; have HS2 := Lib.hid hs2; have HN := Lib.hid hN0
  clear hlev hf hfl hs hL hb hb0 hs2 hsg hz hwb hwb2
  unfold ptr at *
  go_enter Tryd.func54, Tryd.ntmps54
  go_wp2_with fail
  refine HLEV.out.mono ?_
  rintro e w3 ⟨A, N, p, n, c, b, i3, rfl, hr3, ho3, ht3⟩
  obtain ⟨h3, hp⟩ := wrap HB.out HB0.out (by have := HN.out; omega) HS2.out hr3 ho3 ht3
  have HP := Lib.hid hp
  obtain ⟨a1, a2, a3, a4, a5, a6⟩ := h3.cells
  clear hr3 ho3 ht3 h3 hp
  go_wp2_with fail
  refine bodyPost_ret (v := .tuple #[.agg #[.int .u8 A, .int .i64 N, .slice p n c], .bool b]) (by simp [results, Tryd.f54, go_sem, a1, a2, a3]) rfl HP.out

set_option maxRecDepth 1000000 in
theorem row2_any {S : Src} {f : List Tok → Out} {L i : Nat} {w : World} (hf : ∀ (w' : World) (i' : Nat), Rs S w' i' → (S.at i').length ≤ L → Calls Tryd.prog 85 #[ptr S.rb] w' (PPost S (f (S.at i')) w')) (hfl : ∀ l, Less l.length (f l)) (hs : Rs S w i) (hL : (S.at i).length ≤ L) :
    Calls Tryd.prog 71 #[ptr S.rb] w (PPost S (rowO f 2 1 (S.at i)) w) := by
  obtain ⟨W, hW⟩ : ∃ W, w.alloc (.cells #[.int .u8 0, .int .i64 0, .slice none 0 0] 27) = W := ⟨_, rfl⟩
  obtain ⟨N0, hN0⟩ : ∃ N, w.heap.size = N := ⟨_, rfl⟩
  have hWs : W.heap.size = N0 + 1 := by rw [← hW]; simp [hN0]
  obtain ⟨W2, hW2⟩ : ∃ W2, W.alloc (.cells #[.string ⟨#[60]⟩, .string ⟨#[60, 61]⟩, .string ⟨#[61]⟩, .string ⟨#[33, 61]⟩] 9) = W2 := ⟨_, rfl⟩
  have hwb : Below w.heap.size w W := by rw [← hW]; exact (Below.refl _ _).alloc (Nat.le_refl _) _
  have hwb2 : Below W.heap.size W W2 := by rw [← hW2]; exact (Below.refl _ _).alloc (Nat.le_refl _) _
  have hb0 : Bx W2 N0 0 0 none 0 0 := Bx.under (w := W) (by rw [← hW]; exact heap_last hN0.symm) hwb2
  have hb : Below w.heap.size w W2 := hwb.trans (hwb2.mono hwb.size)
  have hsg : Sgs W2 (N0 + 1) [⟨#[60]⟩, ⟨#[60, 61]⟩, ⟨#[61]⟩, ⟨#[33, 61]⟩] := ⟨_, by rw [← hW2]; exact heap_last hWs.symm, fun j hj => match j, hj with
    | 0, _ => rfl
    | 1, _ => rfl
    | 2, _ => rfl
    | 3, _ => rfl⟩
  have hz : ([⟨#[60]⟩, ⟨#[60, 61]⟩, ⟨#[61]⟩, ⟨#[33, 61]⟩] : List ByteArray) = (sgs 2).map textOf := by
    simp only [sgs, List.map_cons, List.map_nil, lit1 60 (by decide), lit2 60 61 (by decide) (by decide), lit1 61 (by decide), lit2 33 61 (by decide) (by decide)]
    rfl
  have hs2 := hs.under hb
  have hent : ∀ args w, (callFunc 85 args).run Tryd.prog w = .ok (.enter 85 args) w := enters_of Tryd.func85 (by kernel_rfl) rfl
  have hlev := level_any (m0 := 1) (cs := 4) (r := 2) (by omega) hent hf hfl hs2 hL (by omega) hz hsg
  rw [show (((1 : Nat)) : Int) = 1 from rfl, show ([⟨#[60]⟩, ⟨#[60, 61]⟩, ⟨#[61]⟩, ⟨#[33, 61]⟩] : List ByteArray).length = 4 from rfl] at hlev
  have HLEV := Lib.hid hlev
  have HB := Lib.hid hb; have HB0 := Lib.hid hb0; have HS2 := Lib.hid hs2; have HN := Lib.hid hN0
  clear hlev hf hfl hs hL hb hb0 hs2 hsg hz hwb hwb2
  unfold ptr at *
  go_enter Tryd.func71, Tryd.ntmps71
  go_wp2_with fail
  refine HLEV.out.mono ?_
  rintro e w3 ⟨A, N, p, n, c, b, i3, rfl, hr3, ho3, ht3⟩
  obtain ⟨h3, hp⟩ := wrap HB.out HB0.out (by have := HN.out; omega) HS2.out hr3 ho3 ht3
  have HP := Lib.hid hp
  obtain ⟨a1, a2, a3, a4, a5, a6⟩ := h3.cells
  clear hr3 ho3 ht3 h3 hp
  go_wp2_with fail
  refine bodyPost_ret (v := .tuple #[.agg #[.int .u8 A, .int .i64 N, .slice p n c], .bool b]) (by simp [results, Tryd.f71, go_sem, a1, a2, a3]) rfl HP.out

set_option maxRecDepth 1000000 in
theorem row3_any {S : Src} {f : List Tok → Out} {L i : Nat} {w : World} (hf : ∀ (w' : World) (i' : Nat), Rs S w' i' → (S.at i').length ≤ L → Calls Tryd.prog 97 #[ptr S.rb] w' (PPost S (f (S.at i')) w')) (hfl : ∀ l, Less l.length (f l)) (hs : Rs S w i) (hL : (S.at i).length ≤ L) :
    Calls Tryd.prog 85 #[ptr S.rb] w (PPost S (rowO f 3 400 (S.at i)) w) := by
  obtain ⟨W, hW⟩ : ∃ W, w.alloc (.cells #[.int .u8 0, .int .i64 0, .slice none 0 0] 27) = W := ⟨_, rfl⟩
  obtain ⟨N0, hN0⟩ : ∃ N, w.heap.size = N := ⟨_, rfl⟩
  have hWs : W.heap.size = N0 + 1 := by rw [← hW]; simp [hN0]
  obtain ⟨W2, hW2⟩ : ∃ W2, W.alloc (.cells #[.string ⟨#[43]⟩, .string ⟨#[45]⟩] 9) = W2 := ⟨_, rfl⟩
  have hwb : Below w.heap.size w W := by rw [← hW]; exact (Below.refl _ _).alloc (Nat.le_refl _) _
  have hwb2 : Below W.heap.size W W2 := by rw [← hW2]; exact (Below.refl _ _).alloc (Nat.le_refl _) _
  have hb0 : Bx W2 N0 0 0 none 0 0 := Bx.under (w := W) (by rw [← hW]; exact heap_last hN0.symm) hwb2
  have hb : Below w.heap.size w W2 := hwb.trans (hwb2.mono hwb.size)
  have hsg : Sgs W2 (N0 + 1) [⟨#[43]⟩, ⟨#[45]⟩] := ⟨_, by rw [← hW2]; exact heap_last hWs.symm, fun j hj => match j, hj with
    | 0, _ => rfl
    | 1, _ => rfl⟩
  have hz : ([⟨#[43]⟩, ⟨#[45]⟩] : List ByteArray) = (sgs 3).map textOf := by
    simp only [sgs, List.map_cons, List.map_nil, lit1 43 (by decide), lit1 45 (by decide)]
    rfl
  have hs2 := hs.under hb
  have hent : ∀ args w, (callFunc 97 args).run Tryd.prog w = .ok (.enter 97 args) w := enters_of Tryd.func97 (by kernel_rfl) rfl
  have hlev := level_any (m0 := 400) (cs := 2) (r := 3) (by omega) hent hf hfl hs2 hL (by omega) hz hsg
  rw [show (((400 : Nat)) : Int) = 400 from rfl, show ([⟨#[43]⟩, ⟨#[45]⟩] : List ByteArray).length = 2 from rfl] at hlev
  have HLEV := Lib.hid hlev
  have HB := Lib.hid hb; have HB0 := Lib.hid hb0; have HS2 := Lib.hid hs2; have HN := Lib.hid hN0
  clear hlev hf hfl hs hL hb hb0 hs2 hsg hz hwb hwb2
  unfold ptr at *
  go_enter Tryd.func85, Tryd.ntmps85
  go_wp2_with fail
  refine HLEV.out.mono ?_
  rintro e w3 ⟨A, N, p, n, c, b, i3, rfl, hr3, ho3, ht3⟩
  obtain ⟨h3, hp⟩ := wrap HB.out HB0.out (by have := HN.out; omega) HS2.out hr3 ho3 ht3
  have HP := Lib.hid hp
  obtain ⟨a1, a2, a3, a4, a5, a6⟩ := h3.cells
  clear hr3 ho3 ht3 h3 hp
  go_wp2_with fail
  refine bodyPost_ret (v := .tuple #[.agg #[.int .u8 A, .int .i64 N, .slice p n c], .bool b]) (by simp [results, Tryd.f85, go_sem, a1, a2, a3]) rfl HP.out

set_option maxRecDepth 1000000 in
theorem row4_any {S : Src} {f : List Tok → Out} {L i : Nat} {w : World} (hf : ∀ (w' : World) (i' : Nat), Rs S w' i' → (S.at i').length ≤ L → Calls Tryd.prog 101 #[ptr S.rb] w' (PPost S (f (S.at i')) w')) (hfl : ∀ l, Less l.length (f l)) (hs : Rs S w i) (hL : (S.at i).length ≤ L) :
    Calls Tryd.prog 97 #[ptr S.rb] w (PPost S (rowO f 4 400 (S.at i)) w) := by
  obtain ⟨W, hW⟩ : ∃ W, w.alloc (.cells #[.int .u8 0, .int .i64 0, .slice none 0 0] 27) = W := ⟨_, rfl⟩
  obtain ⟨N0, hN0⟩ : ∃ N, w.heap.size = N := ⟨_, rfl⟩
  have hWs : W.heap.size = N0 + 1 := by rw [← hW]; simp [hN0]
  obtain ⟨W2, hW2⟩ : ∃ W2, W.alloc (.cells #[.string ⟨#[42]⟩, .string ⟨#[47]⟩, .string ⟨#[37]⟩] 9) = W2 := ⟨_, rfl⟩
  have hwb : Below w.heap.size w W := by rw [← hW]; exact (Below.refl _ _).alloc (Nat.le_refl _) _
  have hwb2 : Below W.heap.size W W2 := by rw [← hW2]; exact (Below.refl _ _).alloc (Nat.le_refl _) _
  have hb0 : Bx W2 N0 0 0 none 0 0 := Bx.under (w := W) (by rw [← hW]; exact heap_last hN0.symm) hwb2
  have hb : Below w.heap.size w W2 := hwb.trans (hwb2.mono hwb.size)
  have hsg : Sgs W2 (N0 + 1) [⟨#[42]⟩, ⟨#[47]⟩, ⟨#[37]⟩] := ⟨_, by rw [← hW2]; exact heap_last hWs.symm, fun j hj => match j, hj with
    | 0, _ => rfl
    | 1, _ => rfl
    | 2, _ => rfl⟩
  have hz : ([⟨#[42]⟩, ⟨#[47]⟩, ⟨#[37]⟩] : List ByteArray) = (sgs 4).map textOf := by
    simp only [sgs, List.map_cons, List.map_nil, lit1 42 (by decide), lit1 47 (by decide), lit1 37 (by decide)]
    rfl
  have hs2 := hs.under hb
  have hent : ∀ args w, (callFunc 101 args).run Tryd.prog w = .ok (.enter 101 args) w := enters_of Tryd.func101 (by kernel_rfl) rfl
  have hlev := level_any (m0 := 400) (cs := 3) (r := 4) (by omega) hent hf hfl hs2 hL (by omega) hz hsg
  rw [show (((400 : Nat)) : Int) = 400 from rfl, show ([⟨#[42]⟩, ⟨#[47]⟩, ⟨#[37]⟩] : List ByteArray).length = 3 from rfl] at hlev
  have HLEV := Lib.hid hlev
  have HB := Lib.hid hb; have HB0 := Lib.hid hb0; have HS2 := Lib.hid hs2; have HN := Lib.hid hN0
  clear hlev hf hfl hs hL hb hb0 hs2 hsg hz hwb hwb2
  unfold ptr at *
  go_enter Tryd.func97, Tryd.ntmps97
  go_wp2_with fail
  refine HLEV.out.mono ?_
  rintro e w3 ⟨A, N, p, n, c, b, i3, rfl, hr3, ho3, ht3⟩
  obtain ⟨h3, hp⟩ := wrap HB.out HB0.out (by have := HN.out; omega) HS2.out hr3 ho3 ht3
  have HP := Lib.hid hp
  obtain ⟨a1, a2, a3, a4, a5, a6⟩ := h3.cells
  clear hr3 ho3 ht3 h3 hp
  go_wp2_with fail
  refine bodyPost_ret (v := .tuple #[.agg #[.int .u8 A, .int .i64 N, .slice p n c], .bool b]) (by simp [results, Tryd.f97, go_sem, a1, a2, a3]) rfl HP.out
end Go.Proofs.YtffhmbiamkbchaaDoor.exp
end
section
namespace Go.Proofs.YtffhmbiamkbchaaDoor.exp
set_option linter.unusedSimpArgs false
set_option linter.unusedVariables false
open Go.RowKit nam lex

theorem lies_one {w : World} {F : Nat → Prop} {b c1 n1 : Nat} {p1 : Option Addr} {x : Ex} (hF : F b) (hb : w.heap[b]? = some (.cells #[.int .u8 (x.op : Int), .int .i64 x.n, .slice p1 n1 c1] 27 (0, 0)))
    (h1 : Lies w F (.slice p1 n1 c1) x.args) : Lies w F (.slice (some ⟨b, 0, none⟩) 1 1) [x] := by
  refine .row b 1 1 _ [x] (fun _ => .slice p1 n1 c1) hF hb rfl ?_ ?_
  · intro i hi
    match i, hi with
    | 0, _ => exact ⟨rfl, rfl, rfl⟩
  · intro i hi
    match i, hi with
    | 0, _ => exact h1
def unO (f5 f6 : List Tok → Out) (l : List Tok) : Out :=
  if txt l = [45] then (match f5 l.tail with | .bad l' => .bad l' | .ok x l' => .ok (.mk 5 0 [x]) l') else if txt l = [33] then (match f5 l.tail with | .bad l' => .bad l' | .ok x l' => .ok (.mk 6 0 [x]) l') else f6 l
theorem un_end {S : Src} {f : List Tok → Out} {w W w1 w2 w3 w4 : World} {N0 N1 i0 i1 i2 o n c : Nat} {A N : Int} {p : Option Addr} {b : Bool} (hb : Below w.heap.size w W) (h0 : Bx W N0 0 0 none 0 0) (hN0 : w.heap.size = N0) (r0 : Rs S W i0) (ho1 : Only (Mine S) W w1) (r1 : Rs S w1 i1)
    (r2 : Rs S w2 i2) (ho2 : Only (Mine S) w1 w2) (ht : Tells S (From w1) (f (S.at i1)) w2 A N p n c b i2) (hN1 : w2.heap.size = N1) (hw3 : w2.alloc (.cells #[.int .u8 A, .int .i64 N, .slice p n c] 27) = w3) (hw4 : w3.alloc (.cells #[.int .u8 A, .int .i64 N, .slice p n c] 27) = w4) :
    Bx w4 N0 0 0 none 0 0 ∧ Bx w3 N1 A N p n c ∧ w3.heap.size = N1 + 1 ∧ PPost S (match f (S.at i1) with | .bad l' => .bad l' | .ok x l' => .ok (.mk o 0 [x]) l') w (.returned (.tuple #[.agg #[.int .u8 (o : Int), .int .i64 0, .slice (some ⟨N1 + 1, 0, none⟩) 1 1], .bool b])) (set3 w4 N0 (o : Int) 0 (some ⟨N1 + 1, 0, none⟩) 1 1) := by
  have e0 : Bx w1 N0 0 0 none 0 0 := h0.only ho1 r0
  have e1 : Bx w2 N0 0 0 none 0 0 := e0.only ho2 r1
  have hb3 : Below w2.heap.size w2 w3 := by rw [← hw3]; exact (Below.refl _ _).alloc (Nat.le_refl _) _
  have hb4 : Below w3.heap.size w3 w4 := by rw [← hw4]; exact (Below.refl _ _).alloc (Nat.le_refl _) _
  have hs3 : w3.heap.size = N1 + 1 := by rw [← hw3]; simp [hN1]
  have hb24 : Below w2.heap.size w2 w4 := hb3.trans (hb4.mono hb3.size)
  have e4 : Bx w4 N0 0 0 none 0 0 := e1.under hb24
  have l1 := e0.lt
  have l2 := h0.lt
  have z1 := ho1.size
  have z2 := ho2.size
  have z0 := hb.size
  refine ⟨e4, by rw [← hw3]; exact heap_last hN1.symm, hs3, (o : Int), 0, _, 1, 1, b, i2, rfl, (r2.under hb24).set3 e4, set3_only (((Only.of_below hb).then ho1).then (ho2.then (.of_below hb24))) (by omega), ?_⟩
  cases hfo : f (S.at i1) with
  | bad l => rw [hfo] at ht; exact ht
  | ok x l =>
    rw [hfo] at ht
    obtain ⟨t0, t1, t2, t3, t4, t5⟩ := ht
    refine ⟨t0, rfl, rfl, rfl, ?_, t5⟩
    have hrow : w4.heap[N1 + 1]? = some (.cells #[.int .u8 A, .int .i64 N, .slice p n c] 27 (0, 0)) := by rw [← hw4]; exact heap_last hs3.symm
    subst t1; subst t2; subst t3
    refine lies_one (x := x) (by unfold From; omega) ((set3_other (by omega)).trans hrow) (((t4.under hb24).frame fun k cc hk hcc => set3_other ?_).mono fun k hk => ?_)
    · unfold From at hk; omega
    · unfold From at *; omega

set_option maxHeartbeats 1600000 in
set_option maxRecDepth 1000000 in
theorem unary_any {S : Src} {f5 f6 : List Tok → Out} {L i : Nat} {w : World} (hf5 : ∀ (w' : World) (i' : Nat), Rs S w' i' → (S.at i').length < L → Calls Tryd.prog 101 #[ptr S.rb] w' (PPost S (f5 (S.at i')) w')) (hf6 : ∀ (w' : World) (i' : Nat), Rs S w' i' → (S.at i').length ≤ L → Calls Tryd.prog 104 #[ptr S.rb] w' (PPost S (f6 (S.at i')) w'))
    (hs : Rs S w i) (hL : (S.at i).length ≤ L) : Calls Tryd.prog 101 #[ptr S.rb] w (PPost S (unO f5 f6 (S.at i)) w) := by
  obtain ⟨W, hW⟩ : ∃ W, w.alloc (.cells #[.int .u8 0, .int .i64 0, .slice none 0 0] 27) = W := ⟨_, rfl⟩
  obtain ⟨N0, hN0⟩ : ∃ N, w.heap.size = N := ⟨_, rfl⟩
  have hwb : Below w.heap.size w W := by rw [← hW]; exact (Below.refl _ _).alloc (Nat.le_refl _) _
  have hb0 : Bx W N0 0 0 none 0 0 := by rw [← hW]; exact heap_last hN0.symm
  have hsW := hs.under hwb
  have t45 : textOf [45] = ⟨#[45]⟩ := lit1 45 (by decide)
  have t33 : textOf [33] = ⟨#[33]⟩ := lit1 33 (by decide)
  have HB := Lib.hid hwb; have HB0 := Lib.hid hb0; have HS := Lib.hid hsW; have HN := Lib.hid hN0; have H5 := Lib.hid hf5; have H6 := Lib.hid hf6; have HL := Lib.hid hL
  have HT45 := Lib.hid t45; have HT33 := Lib.hid t33
  clear hwb hb0 hs hsW hf5 hf6 t45 t33 hL
  obtain ⟨O, hO⟩ : ∃ O, unO f5 f6 (S.at i) = O := ⟨_, rfl⟩
  rw [hO]
  by_cases h45 : txt (S.at i) = [45]
  · have HO : Hid (O = match f5 (S.at (i + 1)) with | .bad l' => .bad l' | .ok x l' => .ok (.mk 5 0 [x]) l') := Lib.hid (by rw [← hO]; unfold unO; rw [if_pos h45, at_tail])
    have HC := Lib.hid (takes_yes HS.out (by simp) HT45.out h45)
    have HLT : Hid ((S.at (i + 1)).length < L) := Lib.hid (by have := HL.out; have := at_lt (S := S) (i := i) (by rw [h45]; simp); rw [at_len] at *; omega)
    clear hO h45
    unfold ptr at *
    go_enter Tryd.func101, Tryd.ntmps101
    go_wp2_with fail
    refine HC.out.mono ?_
    rintro e w1 ⟨rfl, hr1, ho1⟩
    have HR1 := Lib.hid hr1; have HO1 := Lib.hid ho1; clear hr1 ho1
    go_wp2_with fail
    refine (H5.out w1 (i + 1) HR1.out HLT.out).mono ?_
    rintro e w2 ⟨A, N, p, n, c, b, i2, rfl, hr2, ho2, ht2⟩
    obtain ⟨N1, hN1⟩ : ∃ N1, w2.heap.size = N1 := ⟨_, rfl⟩
    obtain ⟨w3, hw3⟩ : ∃ w3, w2.alloc (.cells #[.int .u8 A, .int .i64 N, .slice p n c] 27) = w3 := ⟨_, rfl⟩
    obtain ⟨w4, hw4⟩ : ∃ w4, w3.alloc (.cells #[.int .u8 A, .int .i64 N, .slice p n c] 27) = w4 := ⟨_, rfl⟩
    obtain ⟨e4, e3, hs3, hp⟩ := un_end (o := 5) HB.out HB0.out HN.out HS.out HO1.out HR1.out hr2 ho2 ht2 hN1 hw3 hw4
    rw [← HO.out] at hp
    have HP := Lib.hid hp
    obtain ⟨a1, a2, a3, a4, a5, a6⟩ := e4.cells
    obtain ⟨b1, b2, b3, _⟩ := e3.cells
    clear hr2 ho2 ht2 e4 e3 hp
    go_wp2_with fail
    refine bodyPost_ret (v := .tuple #[.agg #[.int .u8 5, .int .i64 0, .slice (some ⟨N1 + 1, 0, none⟩) 1 1], .bool b]) (by simp [results, Tryd.f101, go_sem, a1, a2, a3]) rfl HP.out
  · have HC := Lib.hid (takes_no HS.out (t := [45]) (by simp [okR]) HT45.out h45)
    by_cases h33 : txt (S.at i) = [33]
    · have HO : Hid (O = match f5 (S.at (i + 1)) with | .bad l' => .bad l' | .ok x l' => .ok (.mk 6 0 [x]) l') := Lib.hid (by rw [← hO]; unfold unO; rw [if_neg h45, if_pos h33, at_tail])
      have H33 := Lib.hid h33
      have HLT : Hid ((S.at (i + 1)).length < L) := Lib.hid (by have := HL.out; have := at_lt (S := S) (i := i) (by rw [h33]; simp); rw [at_len] at *; omega)
      clear hO h45 h33
      unfold ptr at *
      go_enter Tryd.func101, Tryd.ntmps101
      go_wp2_with fail
      refine HC.out.mono ?_
      rintro e w0 ⟨rfl, hr0, hb0⟩
      have HR0 := Lib.hid hr0; have HBB := Lib.hid hb0; clear hr0 hb0
      go_wp2_with fail
      refine (takes_yes HR0.out (by simp) HT33.out H33.out).mono ?_
      rintro e w1 ⟨rfl, hr1, ho1⟩
      have HR1 := Lib.hid hr1; have HO1 := Lib.hid ((Only.of_below HBB.out).then ho1); clear hr1 ho1
      go_wp2_with fail
      refine (H5.out w1 (i + 1) HR1.out HLT.out).mono ?_
      rintro e w2 ⟨A, N, p, n, c, b, i2, rfl, hr2, ho2, ht2⟩
      obtain ⟨N1, hN1⟩ : ∃ N1, w2.heap.size = N1 := ⟨_, rfl⟩
      obtain ⟨w3, hw3⟩ : ∃ w3, w2.alloc (.cells #[.int .u8 A, .int .i64 N, .slice p n c] 27) = w3 := ⟨_, rfl⟩
      obtain ⟨w4, hw4⟩ : ∃ w4, w3.alloc (.cells #[.int .u8 A, .int .i64 N, .slice p n c] 27) = w4 := ⟨_, rfl⟩
      obtain ⟨e4, e3, hs3, hp⟩ := un_end (o := 6) HB.out HB0.out HN.out HS.out HO1.out HR1.out hr2 ho2 ht2 hN1 hw3 hw4
      rw [← HO.out] at hp
      have HP := Lib.hid hp
      obtain ⟨a1, a2, a3, a4, a5, a6⟩ := e4.cells
      obtain ⟨b1, b2, b3, _⟩ := e3.cells
      clear hr2 ho2 ht2 e4 e3 hp
      go_wp2_with fail
      refine bodyPost_ret (v := .tuple #[.agg #[.int .u8 6, .int .i64 0, .slice (some ⟨N1 + 1, 0, none⟩) 1 1], .bool b]) (by simp [results, Tryd.f101, go_sem, a1, a2, a3]) rfl HP.out
    · have HO : Hid (O = f6 (S.at i)) := Lib.hid (by rw [← hO]; unfold unO; rw [if_neg h45, if_neg h33])
      have H33 := Lib.hid h33
      clear hO h45 h33
      unfold ptr at *
      go_enter Tryd.func101, Tryd.ntmps101
      go_wp2_with fail
      refine HC.out.mono ?_
      rintro e w0 ⟨rfl, hr0, hb0⟩
      have HR0 := Lib.hid hr0; have HBB := Lib.hid hb0; clear hr0 hb0
      go_wp2_with fail
      refine (takes_no HR0.out (t := [33]) (by simp [okR]) HT33.out H33.out).mono ?_
      rintro e w1 ⟨rfl, hr1, hb1⟩
      have HR1 := Lib.hid hr1; have HBC := Lib.hid (HBB.out.trans (hb1.mono HBB.out.size)); clear hr1 hb1
      go_wp2_with fail
      refine (H6.out w1 i HR1.out HL.out).mono ?_
      rintro e w2 ⟨A, N, p, n, c, b, i2, rfl, hr2, ho2, ht2⟩
      obtain ⟨h3, hp⟩ := wrap (HB.out.trans (HBC.out.mono HB.out.size)) (HB0.out.under HBC.out) (by have := HN.out; omega) HR1.out hr2 ho2 ht2
      rw [← HO.out] at hp
      have HP := Lib.hid hp
      obtain ⟨a1, a2, a3, a4, a5, a6⟩ := h3.cells
      clear hr2 ho2 ht2 h3 hp
      go_wp2_with fail
      refine bodyPost_ret (v := .tuple #[.agg #[.int .u8 A, .int .i64 N, .slice p n c], .bool b]) (by simp [results, Tryd.f101, go_sem, a1, a2, a3]) rfl HP.out
end Go.Proofs.YtffhmbiamkbchaaDoor.exp
end

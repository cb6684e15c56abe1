/- What or, and, cmp, sum, term answer. -/
import Derived.Test.YteicfdgadloheaaExYa
namespace Go.Proofs.Yteicfdgadloheaa.exp
set_option linter.unusedSimpArgs false
set_option linter.unusedVariables false
open Go.RowKit nam lex

/-- What a callee tells, handed on. -/
theorem wrap {S : Src} {O : Out} {w W2 w3 : World} {N0 i0 i : Nat} {A N : Int} {p : Option Addr} {n c : Nat} {b : Bool} (hb : Below w.heap.size w W2) (h0 : Bx W2 N0 0 0 none 0 0) (hN0 : w.heap.size ≤ N0) (hs : Rs S W2 i0) (hr : Rs S w3 i) (ho : Only (Mine S) W2 w3) (ht : Tells S (From W2) O w3 A N p n c b i) :
    Bx w3 N0 0 0 none 0 0 ∧ PPost S O w (.returned (.tuple #[.agg #[.int .u8 A, .int .i64 N, .slice p n c], .bool b])) (set3 w3 N0 A N p n c) := by
  have h3 : Bx w3 N0 0 0 none 0 0 := h0.only ho hs
  have hsz := hb.size
  have hlt := h0.lt
  refine ⟨h3, A, N, p, n, c, b, i, rfl, hr.set3 h3, set3_only ((Only.of_below hb).then ho) hN0, ?_⟩
  cases O with
  | bad l => exact ht
  | ok x l =>
    obtain ⟨t0, t1, t2, t3, t4, t5⟩ := ht
    refine ⟨t0, t1, t2, t3, (t4.frame fun k cc hk hcc => set3_other (fun e => ?_)).mono fun k hk => ?_, t5⟩
    · unfold From at hk; omega
    · unfold From at *; omega

set_option maxRecDepth 1000000 in
theorem row0_any {S : Src} {f : List Tok → Out} {L i : Nat} {w : World} (hf : ∀ (w' : World) (i' : Nat), Rs S w' i' → (S.at i').length ≤ L → Calls Try.prog 34 #[ptr S.rb] w' (PPost S (f (S.at i')) w')) (hfl : ∀ l, Less l.length (f l)) (hs : Rs S w i) (hL : (S.at i).length ≤ L) :
    Calls Try.prog 23 #[ptr S.rb] w (PPost S (rowO f 0 400 (S.at i)) w) := by
  obtain ⟨W, hW⟩ : ∃ W, w.alloc (.cells #[.int .u8 0, .int .i64 0, .slice none 0 0] 24) = W := ⟨_, rfl⟩
  obtain ⟨N0, hN0⟩ : ∃ N, w.heap.size = N := ⟨_, rfl⟩
  have hWs : W.heap.size = N0 + 1 := by rw [← hW]; simp [hN0]
  obtain ⟨W2, hW2⟩ : ∃ W2, W.alloc (.cells #[.string ⟨#[124]⟩] 9) = W2 := ⟨_, rfl⟩
  have hwb : Below w.heap.size w W := by rw [← hW]; exact (Below.refl _ _).alloc (Nat.le_refl _) _
  have hwb2 : Below W.heap.size W W2 := by rw [← hW2]; exact (Below.refl _ _).alloc (Nat.le_refl _) _
  have hb0 : Bx W2 N0 0 0 none 0 0 := Bx.under (w := W) (by rw [← hW]; exact heap_last hN0.symm) hwb2
  have hb : Below w.heap.size w W2 := hwb.trans (hwb2.mono hwb.size)
  have hsg : Sgs W2 (N0 + 1) [⟨#[124]⟩] := ⟨_, by rw [← hW2]; exact heap_last hWs.symm, fun j hj => match j, hj with
    | 0, _ => rfl⟩
  have hz : ([⟨#[124]⟩] : List ByteArray) = (sgs 0).map textOf := by
    simp only [sgs, List.map_cons, List.map_nil, lit1 124 (by decide)]
    rfl
  have hs2 := hs.under hb
  have hent : ∀ args w, (callFunc 34 args).run Try.prog w = .ok (.enter 34 args) w := enters_of Try.func34 (by kernel_rfl) rfl
  have hlev := level_any (m0 := 400) (cs := 1) (r := 0) (by omega) hent hf hfl hs2 hL (by omega) hz hsg
  rw [show (((400 : Nat)) : Int) = 400 from rfl, show ([⟨#[124]⟩] : List ByteArray).length = 1 from rfl] at hlev
  have HLEV := Lib.hid hlev
  have HB := Lib.hid hb; have HB0 := Lib.hid hb0; have HS2 := Lib.hid hs2; have HN := Lib.hid hN0
  clear hlev hf hfl hs hL hb hb0 hs2 hsg hz hwb hwb2
  unfold ptr at *
  go_enter Try.func23, Try.ntmps23
  go_wp2_with fail
  refine HLEV.out.mono ?_
  rintro e w3 ⟨A, N, p, n, c, b, i3, rfl, hr3, ho3, ht3⟩
  obtain ⟨h3, hp⟩ := wrap HB.out HB0.out (by have := HN.out; omega) HS2.out hr3 ho3 ht3
  have HP := Lib.hid hp
  obtain ⟨a1, a2, a3, a4, a5, a6⟩ := h3.cells
  clear hr3 ho3 ht3 h3 hp
  go_wp2_with fail
  refine bodyPost_ret (v := .tuple #[.agg #[.int .u8 A, .int .i64 N, .slice p n c], .bool b]) (by simp [results, Try.f23, go_sem, a1, a2, a3]) rfl HP.out

set_option maxRecDepth 1000000 in
theorem row1_any {S : Src} {f : List Tok → Out} {L i : Nat} {w : World} (hf : ∀ (w' : World) (i' : Nat), Rs S w' i' → (S.at i').length ≤ L → Calls Try.prog 54 #[ptr S.rb] w' (PPost S (f (S.at i')) w')) (hfl : ∀ l, Less l.length (f l)) (hs : Rs S w i) (hL : (S.at i).length ≤ L) :
    Calls Try.prog 34 #[ptr S.rb] w (PPost S (rowO f 1 400 (S.at i)) w) := by
  obtain ⟨W, hW⟩ : ∃ W, w.alloc (.cells #[.int .u8 0, .int .i64 0, .slice none 0 0] 24) = W := ⟨_, rfl⟩
  obtain ⟨N0, hN0⟩ : ∃ N, w.heap.size = N := ⟨_, rfl⟩
  have hWs : W.heap.size = N0 + 1 := by rw [← hW]; simp [hN0]
  obtain ⟨W2, hW2⟩ : ∃ W2, W.alloc (.cells #[.string ⟨#[38]⟩] 9) = W2 := ⟨_, rfl⟩
  have hwb : Below w.heap.size w W := by rw [← hW]; exact (Below.refl _ _).alloc (Nat.le_refl _) _
  have hwb2 : Below W.heap.size W W2 := by rw [← hW2]; exact (Below.refl _ _).alloc (Nat.le_refl _) _
  have hb0 : Bx W2 N0 0 0 none 0 0 := Bx.under (w := W) (by rw [← hW]; exact heap_last hN0.symm) hwb2
  have hb : Below w.heap.size w W2 := hwb.trans (hwb2.mono hwb.size)
  have hsg : Sgs W2 (N0 + 1) [⟨#[38]⟩] := ⟨_, by rw [← hW2]; exact heap_last hWs.symm, fun j hj => match j, hj with
    | 0, _ => rfl⟩
  have hz : ([⟨#[38]⟩] : List ByteArray) = (sgs 1).map textOf := by
    simp only [sgs, List.map_cons, List.map_nil, lit1 38 (by decide)]
    rfl
  have hs2 := hs.under hb
  have hent : ∀ args w, (callFunc 54 args).run Try.prog w = .ok (.enter 54 args) w := enters_of Try.func54 (by kernel_rfl) rfl
  have hlev := level_any (m0 := 400) (cs := 1) (r := 1) (by omega) hent hf hfl hs2 hL (by omega) hz hsg
  rw [show (((400 : Nat)) : Int) = 400 from rfl, show ([⟨#[38]⟩] : List ByteArray).length = 1 from rfl] at hlev
  have HLEV := Lib.hid hlev
  have HB := Lib.hid hb; have HB0 := Lib.hid hb0; have HS2 := Lib.hid hs2; have HN := Lib.hid hN0
  clear hlev hf hfl hs hL hb hb0 hs2 hsg hz hwb hwb2
  unfold ptr at *
  go_enter Try.func34, Try.ntmps34
  go_wp2_with fail
  refine HLEV.out.mono ?_
  rintro e w3 ⟨A, N, p, n, c, b, i3, rfl, hr3, ho3, ht3⟩
  obtain ⟨h3, hp⟩ := wrap HB.out HB0.out (by have := HN.out; omega) HS2.out hr3 ho3 ht3
  have HP := Lib.hid hp
  obtain ⟨a1, a2, a3, a4, a5, a6⟩ := h3.cells
  clear hr3 ho3 ht3 h3 hp
  go_wp2_with fail
  refine bodyPost_ret (v := .tuple #[.agg #[.int .u8 A, .int .i64 N, .slice p n c], .bool b]) (by simp [results, Try.f34, go_sem, a1, a2, a3]) rfl HP.out

set_option maxRecDepth 1000000 in
theorem row2_any {S : Src} {f : List Tok → Out} {L i : Nat} {w : World} (hf : ∀ (w' : World) (i' : Nat), Rs S w' i' → (S.at i').length ≤ L → Calls Try.prog 68 #[ptr S.rb] w' (PPost S (f (S.at i')) w')) (hfl : ∀ l, Less l.length (f l)) (hs : Rs S w i) (hL : (S.at i).length ≤ L) :
    Calls Try.prog 54 #[ptr S.rb] w (PPost S (rowO f 2 1 (S.at i)) w) := by
  obtain ⟨W, hW⟩ : ∃ W, w.alloc (.cells #[.int .u8 0, .int .i64 0, .slice none 0 0] 24) = W := ⟨_, rfl⟩
  obtain ⟨N0, hN0⟩ : ∃ N, w.heap.size = N := ⟨_, rfl⟩
  have hWs : W.heap.size = N0 + 1 := by rw [← hW]; simp [hN0]
  obtain ⟨W2, hW2⟩ : ∃ W2, W.alloc (.cells #[.string ⟨#[60]⟩, .string ⟨#[60, 61]⟩, .string ⟨#[61]⟩, .string ⟨#[33, 61]⟩] 9) = W2 := ⟨_, rfl⟩
  have hwb : Below w.heap.size w W := by rw [← hW]; exact (Below.refl _ _).alloc (Nat.le_refl _) _
  have hwb2 : Below W.heap.size W W2 := by rw [← hW2]; exact (Below.refl _ _).alloc (Nat.le_refl _) _
  have hb0 : Bx W2 N0 0 0 none 0 0 := Bx.under (w := W) (by rw [← hW]; exact heap_last hN0.symm) hwb2
  have hb : Below w.heap.size w W2 := hwb.trans (hwb2.mono hwb.size)
  have hsg : Sgs W2 (N0 + 1) [⟨#[60]⟩, ⟨#[60, 61]⟩, ⟨#[61]⟩, ⟨#[33, 61]⟩] := ⟨_, by rw [← hW2]; exact heap_last hWs.symm, fun j hj => match j, hj with
    | 0, _ => rfl
    | 1, _ => rfl
    | 2, _ => rfl
    | 3, _ => rfl⟩
  have hz : ([⟨#[60]⟩, ⟨#[60, 61]⟩, ⟨#[61]⟩, ⟨#[33, 61]⟩] : List ByteArray) = (sgs 2).map textOf := by
    simp only [sgs, List.map_cons, List.map_nil, lit1 60 (by decide), lit2 60 61 (by decide) (by decide), lit1 61 (by decide), lit2 33 61 (by decide) (by decide)]
    rfl
  have hs2 := hs.under hb
  have hent : ∀ args w, (callFunc 68 args).run Try.prog w = .ok (.enter 68 args) w := enters_of Try.func68 (by kernel_rfl) rfl
  have hlev := level_any (m0 := 1) (cs := 4) (r := 2) (by omega) hent hf hfl hs2 hL (by omega) hz hsg
  rw [show (((1 : Nat)) : Int) = 1 from rfl, show ([⟨#[60]⟩, ⟨#[60, 61]⟩, ⟨#[61]⟩, ⟨#[33, 61]⟩] : List ByteArray).length = 4 from rfl] at hlev
  have HLEV := Lib.hid hlev
  have HB := Lib.hid hb; have HB0 := Lib.hid hb0; have HS2 := Lib.hid hs2; have HN := Lib.hid hN0
  clear hlev hf hfl hs hL hb hb0 hs2 hsg hz hwb hwb2
  unfold ptr at *
  go_enter Try.func54, Try.ntmps54
  go_wp2_with fail
  refine HLEV.out.mono ?_
  rintro e w3 ⟨A, N, p, n, c, b, i3, rfl, hr3, ho3, ht3⟩
  obtain ⟨h3, hp⟩ := wrap HB.out HB0.out (by have := HN.out; omega) HS2.out hr3 ho3 ht3
  have HP := Lib.hid hp
  obtain ⟨a1, a2, a3, a4, a5, a6⟩ := h3.cells
  clear hr3 ho3 ht3 h3 hp
  go_wp2_with fail
  refine bodyPost_ret (v := .tuple #[.agg #[.int .u8 A, .int .i64 N, .slice p n c], .bool b]) (by simp [results, Try.f54, go_sem, a1, a2, a3]) rfl HP.out

set_option maxRecDepth 1000000 in
theorem row3_any {S : Src} {f : List Tok → Out} {L i : Nat} {w : World} (hf : ∀ (w' : World) (i' : Nat), Rs S w' i' → (S.at i').length ≤ L → Calls Try.prog 79 #[ptr S.rb] w' (PPost S (f (S.at i')) w')) (hfl : ∀ l, Less l.length (f l)) (hs : Rs S w i) (hL : (S.at i).length ≤ L) :
    Calls Try.prog 68 #[ptr S.rb] w (PPost S (rowO f 3 400 (S.at i)) w) := by
  obtain ⟨W, hW⟩ : ∃ W, w.alloc (.cells #[.int .u8 0, .int .i64 0, .slice none 0 0] 24) = W := ⟨_, rfl⟩
  obtain ⟨N0, hN0⟩ : ∃ N, w.heap.size = N := ⟨_, rfl⟩
  have hWs : W.heap.size = N0 + 1 := by rw [← hW]; simp [hN0]
  obtain ⟨W2, hW2⟩ : ∃ W2, W.alloc (.cells #[.string ⟨#[43]⟩, .string ⟨#[45]⟩] 9) = W2 := ⟨_, rfl⟩
  have hwb : Below w.heap.size w W := by rw [← hW]; exact (Below.refl _ _).alloc (Nat.le_refl _) _
  have hwb2 : Below W.heap.size W W2 := by rw [← hW2]; exact (Below.refl _ _).alloc (Nat.le_refl _) _
  have hb0 : Bx W2 N0 0 0 none 0 0 := Bx.under (w := W) (by rw [← hW]; exact heap_last hN0.symm) hwb2
  have hb : Below w.heap.size w W2 := hwb.trans (hwb2.mono hwb.size)
  have hsg : Sgs W2 (N0 + 1) [⟨#[43]⟩, ⟨#[45]⟩] := ⟨_, by rw [← hW2]; exact heap_last hWs.symm, fun j hj => match j, hj with
    | 0, _ => rfl
    | 1, _ => rfl⟩
  have hz : ([⟨#[43]⟩, ⟨#[45]⟩] : List ByteArray) = (sgs 3).map textOf := by
    simp only [sgs, List.map_cons, List.map_nil, lit1 43 (by decide), lit1 45 (by decide)]
    rfl
  have hs2 := hs.under hb
  have hent : ∀ args w, (callFunc 79 args).run Try.prog w = .ok (.enter 79 args) w := enters_of Try.func79 (by kernel_rfl) rfl
  have hlev := level_any (m0 := 400) (cs := 2) (r := 3) (by omega) hent hf hfl hs2 hL (by omega) hz hsg
  rw [show (((400 : Nat)) : Int) = 400 from rfl, show ([⟨#[43]⟩, ⟨#[45]⟩] : List ByteArray).length = 2 from rfl] at hlev
  have HLEV := Lib.hid hlev
  have HB := Lib.hid hb; have HB0 := Lib.hid hb0; have HS2 := Lib.hid hs2; have HN := Lib.hid hN0
  clear hlev hf hfl hs hL hb hb0 hs2 hsg hz hwb hwb2
  unfold ptr at *
  go_enter Try.func68, Try.ntmps68
  go_wp2_with fail
  refine HLEV.out.mono ?_
  rintro e w3 ⟨A, N, p, n, c, b, i3, rfl, hr3, ho3, ht3⟩
  obtain ⟨h3, hp⟩ := wrap HB.out HB0.out (by have := HN.out; omega) HS2.out hr3 ho3 ht3
  have HP := Lib.hid hp
  obtain ⟨a1, a2, a3, a4, a5, a6⟩ := h3.cells
  clear hr3 ho3 ht3 h3 hp
  go_wp2_with fail
  refine bodyPost_ret (v := .tuple #[.agg #[.int .u8 A, .int .i64 N, .slice p n c], .bool b]) (by simp [results, Try.f68, go_sem, a1, a2, a3]) rfl HP.out

set_option maxRecDepth 1000000 in
theorem row4_any {S : Src} {f : List Tok → Out} {L i : Nat} {w : World} (hf : ∀ (w' : World) (i' : Nat), Rs S w' i' → (S.at i').length ≤ L → Calls Try.prog 81 #[ptr S.rb] w' (PPost S (f (S.at i')) w')) (hfl : ∀ l, Less l.length (f l)) (hs : Rs S w i) (hL : (S.at i).length ≤ L) :
    Calls Try.prog 79 #[ptr S.rb] w (PPost S (rowO f 4 400 (S.at i)) w) := by
  obtain ⟨W, hW⟩ : ∃ W, w.alloc (.cells #[.int .u8 0, .int .i64 0, .slice none 0 0] 24) = W := ⟨_, rfl⟩
  obtain ⟨N0, hN0⟩ : ∃ N, w.heap.size = N := ⟨_, rfl⟩
  have hWs : W.heap.size = N0 + 1 := by rw [← hW]; simp [hN0]
  obtain ⟨W2, hW2⟩ : ∃ W2, W.alloc (.cells #[.string ⟨#[42]⟩, .string ⟨#[47]⟩, .string ⟨#[37]⟩] 9) = W2 := ⟨_, rfl⟩
  have hwb : Below w.heap.size w W := by rw [← hW]; exact (Below.refl _ _).alloc (Nat.le_refl _) _
  have hwb2 : Below W.heap.size W W2 := by rw [← hW2]; exact (Below.refl _ _).alloc (Nat.le_refl _) _
  have hb0 : Bx W2 N0 0 0 none 0 0 := Bx.under (w := W) (by rw [← hW]; exact heap_last hN0.symm) hwb2
  have hb : Below w.heap.size w W2 := hwb.trans (hwb2.mono hwb.size)
  have hsg : Sgs W2 (N0 + 1) [⟨#[42]⟩, ⟨#[47]⟩, ⟨#[37]⟩] := ⟨_, by rw [← hW2]; exact heap_last hWs.symm, fun j hj => match j, hj with
    | 0, _ => rfl
    | 1, _ => rfl
    | 2, _ => rfl⟩
  have hz : ([⟨#[42]⟩, ⟨#[47]⟩, ⟨#[37]⟩] : List ByteArray) = (sgs 4).map textOf := by
    simp only [sgs, List.map_cons, List.map_nil, lit1 42 (by decide), lit1 47 (by decide), lit1 37 (by decide)]
    rfl
  have hs2 := hs.under hb
  have hent : ∀ args w, (callFunc 81 args).run Try.prog w = .ok (.enter 81 args) w := enters_of Try.func81 (by kernel_rfl) rfl
  have hlev := level_any (m0 := 400) (cs := 3) (r := 4) (by omega) hent hf hfl hs2 hL (by omega) hz hsg
  rw [show (((400 : Nat)) : Int) = 400 from rfl, show ([⟨#[42]⟩, ⟨#[47]⟩, ⟨#[37]⟩] : List ByteArray).length = 3 from rfl] at hlev
  have HLEV := Lib.hid hlev
  have HB := Lib.hid hb; have HB0 := Lib.hid hb0; have HS2 := Lib.hid hs2; have HN := Lib.hid hN0
  clear hlev hf hfl hs hL hb hb0 hs2 hsg hz hwb hwb2
  unfold ptr at *
  go_enter Try.func79, Try.ntmps79
  go_wp2_with fail
  refine HLEV.out.mono ?_
  rintro e w3 ⟨A, N, p, n, c, b, i3, rfl, hr3, ho3, ht3⟩
  obtain ⟨h3, hp⟩ := wrap HB.out HB0.out (by have := HN.out; omega) HS2.out hr3 ho3 ht3
  have HP := Lib.hid hp
  obtain ⟨a1, a2, a3, a4, a5, a6⟩ := h3.cells
  clear hr3 ho3 ht3 h3 hp
  go_wp2_with fail
  refine bodyPost_ret (v := .tuple #[.agg #[.int .u8 A, .int .i64 N, .slice p n c], .bool b]) (by simp [results, Try.f79, go_sem, a1, a2, a3]) rfl HP.out
end Go.Proofs.Yteicfdgadloheaa.exp

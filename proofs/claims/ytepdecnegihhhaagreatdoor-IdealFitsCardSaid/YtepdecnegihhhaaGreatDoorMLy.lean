/- What strings.ContainsRune answers of the signs and a rune; what lex.begun makes. What .. -/
import Derived.Test.YtepdecnegihhhaaGreatDoorMLx
import Derived.Test.YtepdecnegihhhaaGreatDoorCr
import Derived.WalkMore
import Derived.Orders
import Derived.Tactics
import Derived.RegionTactic
import Derived.Deep.MidRow
import Derived.Laws.StructEq
import Derived.Deep.RegionLaw
import Derived.Deep.RegionHeld3
import Derived.Laws.EntriesVeiled
import Derived.Deep.DrawnRows
set_option linter.unusedSimpArgs false
set_option linter.unusedVariables false
namespace Go.Proofs.YtepdecnegihhhaaGreatDoor.lex
section
open Go.RowKit nam
def signs : ByteArray := ⟨#[43, 45, 42, 47, 37, 40, 41, 38, 124, 33, 61, 60]⟩
theorem indexByte_far : ∀ (l : List UInt8) (c : UInt8), (∀ x ∈ l, x.toNat < 128) → 128 ≤ c.toNat → Lib.indexByte l c = -1
 | [], _, _, _ => rfl
 | b :: l, c, h, hc => by
  have h1 := indexByte_far l c (fun x hx => h x (List.mem_cons_of_mem _ hx)) hc
  have h2 : (b == c) = false := by
   rw [beq_eq_false_iff_ne]
   intro e
   have := h b List.mem_cons_self
   rw [e] at this
   omega
  unfold Lib.indexByte
  rw [h2, h1]
  rfl
theorem signs_ascii : ∀ x ∈ signs.data.toList, x.toNat < 128 := by decide
theorem signs_all : ((List.range 128).all fun r => decide (decide (0 ≤ Lib.indexByte signs.data.toList (r : Int).toNat.toUInt8) = sgnB r)) = true := by kernel_rfl
theorem signs_at {r : Nat} (h : r < 128) : decide (0 ≤ Lib.indexByte signs.data.toList (r : Int).toNat.toUInt8) = sgnB r := by
 have := List.all_eq_true.1 signs_all r (List.mem_range.2 h)
 simpa using this
theorem sgnB_far {r : Nat} (h : 128 ≤ r) : sgnB r = false := by
 unfold sgnB
 simp
 omega
section
variable {Q : Exit → Act → World → Prop} {K : Act → World → Prop} {a : Act} {w : World} {id : Nat}
theorem inBlock_ret : Exit.inBlock id Q .ret a w = Q .ret a w := rfl
theorem then_ret : Exit.then K Q .ret a w = Q .ret a w := rfl
theorem noGoto_ret : Exit.noGoto Q .ret a w = Q .ret a w := rfl
end
set_option maxHeartbeats 2000000 in
set_option maxRecDepth 1000000 in
theorem index_two {s : ByteArray} {r : Nat} (h1 : 128 ≤ r) (h2 : r < 192) (hs : ∀ x ∈ s.data.toList, x.toNat < 128) (h3 : 2 ≤ s.size) (h4 : s.size ≤ 1000) (w : World) :
  Calls Tryz.prog 184 #[.string s, .int .i32 r] w fun e w' => e = .returned (.int .i64 (-1)) ∧ Below w.heap.size w w' := by
 have hv : Lib.validRune (r : Int) = true := by unfold Lib.validRune; simp; omega
 obtain ⟨X, hX⟩ : ∃ X, Utf8.encode (r : Int) = X := ⟨_, rfl⟩
 have hXe : X = ⟨#[UInt8.ofNat (192 + r / 64), UInt8.ofNat (128 + r % 64)]⟩ := by
  rw [← hX, encode_enc r (by unfold okR; omega)]
  unfold enc
  rw [if_neg (by omega), if_pos (by omega)]
 have hXs : X.size = 2 := by rw [hXe]; rfl
 have hlt : 1 < X.size := by omega
 have hlt2 : 1 < s.size := by omega
 have hb : 128 ≤ (X[1]'hlt).toNat := by
  have : X[1]'hlt = UInt8.ofNat (128 + r % 64) := by subst hXe; rfl
  rw [this, toNat_ofNat _ (by omega)]
  omega
 have hi : ∀ (n : Nat) (c : Int), 128 ≤ c → c < 256 → Lib.indexByte (s.extract n s.size).data.toList c.toNat.toUInt8 = -1 := fun n c hc hc2 => by
  refine indexByte_far _ _ (fun x hx => ?_) ?_
  · rw [extract_toList] at hx
    exact hs x (List.mem_of_mem_take (List.mem_of_mem_drop hx))
  · show 128 ≤ (UInt8.ofNat c.toNat).toNat
    rw [toNat_ofNat _ (by omega)]
    omega
 have h0 : (s[1]'hlt2).toNat < 128 := hs _ (by rw [ByteArray.getElem_eq_getElem_data, ← Array.getElem_toList]; exact List.getElem_mem _)
 have HI := Lib.hid hi
 have hne : (((s[1]'hlt2).toNat : Int) != ((X[1]'hlt).toNat : Int)) = true := by
  rw [bne_iff_ne]; omega
 have n1 : ((r : Int) == 65533) = false := by simp; omega
 clear hi hXe
 go_enter Tryz.func184, Tryz.ntmps184
 go_wp2_with fail
 refine (Tryz.utf8_ValidRune _ _).mono ?_
 rintro e w1 ⟨rfl, rfl⟩
 go_wp2_with fail
 go_step3
 go_wp2_with fail
 go_outline
 go_loop [9, 10] (fun i f => i = .int .i64 1 ∧ f = .int .i64 0) (fun _ _ => 0)
 case atStart => exact ⟨rfl, rfl⟩
 case round =>
  obtain ⟨rfl, rfl⟩ := hrel
  go_wp2_with fail
  go_step3
  go_wp2_with fail
  go_outline
  go_quiet (fail)
  go_wp2_with fail
  have HG : Hid (Below w1.heap.size w1 (w1.drewN nq)) := ⟨rfl, rfl, rfl, Nat.le_refl _, fun _ _ => rfl⟩
  generalize w1.drewN nq = w2 at HG ⊢
  have hw1 : IntKind.i64.wrap ((1 : Int) + 1) = 2 := rfl
  go_quiet ((go_at_call 204; exact Calls.quiet_of_same (Tryz.strings_IndexByte _ _ _)))
  have hix : Lib.indexByte (s.extract 2 s.size).data.toList ((X[1]'hlt).toNat : Int).toNat.toUInt8 = -1 := HI.out 2 _ (by omega) (by have := (X[1]'hlt).toNat_lt; omega)
  rw [hix]
  clear hix
  go_wp2_with fail
  rw [Exit.noGoto_ret]
  simp (config := { zetaDelta := true }) only [inBlock_ret, then_ret, noGoto_ret]
  go_ret
  exact ⟨rfl, ⟨HG.out.os, HG.out.tape, HG.out.output, HG.out.size, HG.out.block⟩⟩
set_option maxHeartbeats 2000000 in
set_option maxRecDepth 1000000 in
theorem index_err {s : ByteArray} (hs : ∀ x ∈ s.data.toList, x.toNat < 128) (h4 : s.size ≤ 1000) (w : World) :
  Calls Tryz.prog 184 #[.string s, .int .i32 (65533 : Nat)] w fun e w' => e = .returned (.int .i64 (-1)) ∧ Below w.heap.size w w' := by
 go_enter Tryz.func184, Tryz.ntmps184
 go_wp2_with fail
 go_loopw [5] (fun _ wr => ∃ pos : Nat, wr = w.iter s pos) (fun _ wr => s.size - wr.iterPos w.heap.size)
 case atStart => exact ⟨0, rfl⟩
 case round =>
  obtain ⟨pos, rfl⟩ := hrel
  by_cases hp : pos < s.size
  · have hnx : ∀ ty, (Instr.next (.pointer (some ⟨w.heap.size, 0, none⟩)) true ty).run Tryz.prog (w.iter s pos) = _ := fun ty => run_next_any w s pos ty hp
    have hwd := width_pos s pos hp
    have h0 : (s[pos]'hp).toNat < 128 := hs _ (by rw [ByteArray.getElem_eq_getElem_data, ← Array.getElem_toList]; exact List.getElem_mem _)
    have hd : (Utf8.decode s pos).1 = (s[pos]'hp).toNat := by rw [decode_ascii s pos hp h0]
    have hne : (((Utf8.decode s pos).1 : Int) == 65533) = false := by rw [hd]; simp; omega
    clear hd
    go_wp2_with fail
    go_roundw
    case rel => exact ⟨pos + (Utf8.decode s pos).2, rfl⟩
    case measure => simp; omega
  · have hnx : ∀ ty, (Instr.next (.pointer (some ⟨w.heap.size, 0, none⟩)) true ty).run Tryz.prog (w.iter s pos) = _ := fun ty => run_next_end w s pos ty hp
    go_wp2_with fail
    try rw [Exit.noGoto_ret]
    go_ret
    exact ⟨rfl, below_iter w s pos⟩
end
section
open Go.RowKit nam
def kf (k : Nat) : Nat := if k = 1 then 223 else if k = 2 then 225 else 226
theorem contains_any {r : Nat} (hr : okR r) (hl : letB r = false) (w : World) : Calls Tryz.prog 155 #[.string ⟨#[43, 45, 42, 47, 37, 40, 41, 38, 124, 33, 61, 60]⟩, .int .i32 r] w fun e w' => e = .returned (.bool (sgnB r)) ∧ Below w.heap.size w w' := by
 by_cases h1 : r < 128
 · refine (Tryz.strings_ContainsRune_ascii _ _ _ (by omega) (by omega)).mono ?_
   rintro e w' ⟨rfl, rfl⟩
   exact ⟨ret_bool (signs_at h1), Below.refl _ _⟩
 · have h2 : r < 192 ∨ r = 65533 := by
    unfold letB at hl
    simp at hl
    omega
   have hi : Calls Tryz.prog 184 #[.string ⟨#[43, 45, 42, 47, 37, 40, 41, 38, 124, 33, 61, 60]⟩, .int .i32 r] w fun e w' => e = .returned (.int .i64 (-1)) ∧ Below w.heap.size w w' := by
    rcases h2 with h2 | h2
    · exact index_two (s := signs) (by omega) h2 signs_ascii (by decide) (by decide) w
    · subst h2; exact index_err (s := signs) signs_ascii (by decide) w
   have HI := Lib.hid hi
   have HS := Lib.hid (sgnB_far (r := r) (by omega))
   clear hi h2 hl
   go_enter Tryz.func155, Tryz.ntmps155
   go_wp2_with fail
   refine HI.out.mono ?_
   rintro e w1 ⟨rfl, hb1⟩
   have HB1 := Lib.hid hb1; clear hb1
   go_wp2_with fail
   go_ret
   exact ⟨by rw [HS.out]; rfl, HB1.out⟩
theorem contains_yes {r : Nat} (hr : okR r) (hl : letB r = false) (hs : sgnB r = true) (w : World) : Calls Tryz.prog 155 #[.string ⟨#[43, 45, 42, 47, 37, 40, 41, 38, 124, 33, 61, 60]⟩, .int .i32 r] w fun e w' => e = .returned (.bool true) ∧ Below w.heap.size w w' := by
 have := contains_any hr hl w; rwa [hs] at this
theorem contains_no {r : Nat} (hr : okR r) (hl : letB r = false) (hs : sgnB r = false) (w : World) : Calls Tryz.prog 155 #[.string ⟨#[43, 45, 42, 47, 37, 40, 41, 38, 124, 33, 61, 60]⟩, .int .i32 r] w fun e w' => e = .returned (.bool false) ∧ Below w.heap.size w w' := by
 have := contains_any hr hl w; rwa [hs] at this
def BegunPost (w : World) (B g cap : Nat) (done : List Tok) (t : Tok) (e : Ending) (w' : World) : Prop :=
 ∃ b, w.heap.size ≤ b ∧ e = .returned (.tuple #[.func (.func (kf t.kind)) #[] #[.pointer (some ⟨b, 0, none⟩)], .int .i64 0]) ∧ Box w' b g (4 * done.length) ∧ Toks w' B (.slice (some ⟨g, 0, none⟩) (done.length + 1) cap) (done ++ [t]) ∧ w.grownBy w' (some g)
theorem begun_of {w w1 w' : World} {B g cap b : Nat} {done : List Tok} {t : Tok} (hb : Below w.heap.size w w1) (hle : w1.heap.size ≤ b) (hx : Box w' b g (4 * done.length)) (ht : Toks w' B (.slice (some ⟨g, 0, none⟩) (done.length + 1) cap) (done ++ [t])) (hg : w1.grownBy w' (some g)) :
  BegunPost w B g cap done t (.returned (.tuple #[.func (.func (kf t.kind)) #[] #[.pointer (some ⟨b, 0, none⟩)], .int .i64 0])) w' :=
 ⟨b, Nat.le_trans hb.size hle, rfl, hx, ht, Lib.grownBy_trans (grown_of_below hb _) hg⟩
set_option maxHeartbeats 800000 in
set_option maxRecDepth 1000000 in
theorem begun_yes {w : World} {B g cap r p : Nat} {done : List Tok} {t : Tok} (hr : okR r) (hg : beg r p = some t) (h : Toks w B (.slice (some ⟨g, 0, none⟩) (done.length + 1) cap) (done ++ [⟨0, [], 0, p⟩])) :
  Calls Tryz.prog 191 #[.pointer (some ⟨g, 4 * done.length, none⟩), .int .i32 r] w (BegunPost w B g cap done t) := by
 have HH := Lib.hid h; clear h
 unfold beg at hg
 cases hl : letB r with
 | true =>
  rw [hl, if_pos rfl] at hg
  cases hg
  go_enter Tryz.func191, Tryz.ntmps191
  go_wp2_with fail
  refine (letter_yes hl hr _).mono ?_
  rintro e w1 ⟨rfl, hb1⟩
  have HB1 := Lib.hid hb1; clear hb1
  go_wp2_with fail
  refine (name_lx hr (toks_below HH.out HB1.out)).mono ?_
  rintro e w2 ⟨b, hle, rfl, hx, ht, hgr⟩
  have HP := Lib.hid (begun_of HB1.out hle hx ht hgr)
  clear hle hx ht hgr
  go_wp2_with fail
  go_ret2
  exact HP.out
 | false =>
  have HL := Lib.hid hl
  rw [hl, if_neg (by simp)] at hg
  cases hd : digB r with
  | true =>
   rw [hd, if_pos rfl] at hg
   cases hg
   go_enter Tryz.func191, Tryz.ntmps191
   go_wp2_with fail
   refine (letter_no HL.out hr _).mono ?_
   rintro e w1 ⟨rfl, hb1⟩
   have HB1 := Lib.hid hb1; clear hb1
   go_wp2_with fail
   refine (digit_yes hd _).mono ?_
   rintro e w2 ⟨rfl, rfl⟩
   go_wp2_with fail
   refine (number_lx hd (toks_below HH.out HB1.out)).mono ?_
   rintro e w2 ⟨b, hle, rfl, hx, ht, hgr⟩
   have HP := Lib.hid (begun_of HB1.out hle hx ht hgr)
   clear hle hx ht hgr
   go_wp2_with fail
   go_ret2
   exact HP.out
  | false =>
   have HD := Lib.hid hd
   rw [hd, if_neg (by simp)] at hg
   have hs : sgnB r = true := by
    cases hs : sgnB r with
    | true => rfl
    | false => rw [hs, if_neg (by simp)] at hg; cases hg
   rw [hs, if_pos rfl] at hg
   cases hg
   have HS := Lib.hid hs
   clear hs hl hd
   go_enter Tryz.func191, Tryz.ntmps191
   go_wp2_with fail
   refine (letter_no HL.out hr _).mono ?_
   rintro e w1 ⟨rfl, hb1⟩
   have HB1 := Lib.hid hb1; clear hb1
   go_wp2_with fail
   refine (digit_no HD.out _).mono ?_
   rintro e w2 ⟨rfl, rfl⟩
   go_wp2_with fail
   refine (contains_yes hr HL.out HS.out _).mono ?_
   rintro e w2 ⟨rfl, hb2⟩
   have HB2 := Lib.hid (below_on' HB1.out hb2); clear hb2
   go_wp2_with fail
   refine (sign_lx hr (toks_below HH.out HB2.out)).mono ?_
   rintro e w3 ⟨b, hle, rfl, hx, ht, hgr⟩
   have HP := Lib.hid (begun_of HB2.out hle hx ht hgr)
   clear hle hx ht hgr
   go_wp2_with fail
   go_ret2
   exact HP.out
set_option maxRecDepth 1000000 in
theorem begun_no {w : World} {r p : Nat} {a : Value} (hr : okR r) (hg : beg r p = none) :
  Calls Tryz.prog 191 #[a, .int .i32 r] w fun e w' => e = .returned (.tuple #[.nilFunc, .int .i64 70]) ∧ Below w.heap.size w w' := by
 unfold beg at hg
 have hl : letB r = false := by
  cases hl : letB r with
  | false => rfl
  | true => rw [hl, if_pos rfl] at hg; cases hg
 rw [hl, if_neg (by simp)] at hg
 have hd : digB r = false := by
  cases hd : digB r with
  | false => rfl
  | true => rw [hd, if_pos rfl] at hg; cases hg
 rw [hd, if_neg (by simp)] at hg
 have hs : sgnB r = false := by
  cases hs : sgnB r with
  | false => rfl
  | true => rw [hs, if_pos rfl] at hg; cases hg
 have HL := Lib.hid hl; have HD := Lib.hid hd; have HS := Lib.hid hs
 clear hl hd hs hg
 go_enter Tryz.func191, Tryz.ntmps191
 go_wp2_with fail
 refine (letter_no HL.out hr _).mono ?_
 rintro e w1 ⟨rfl, hb1⟩
 have HB1 := Lib.hid hb1; clear hb1
 go_wp2_with fail
 refine (digit_no HD.out _).mono ?_
 rintro e w2 ⟨rfl, rfl⟩
 go_wp2_with fail
 refine (contains_no hr HL.out HS.out _).mono ?_
 rintro e w2 ⟨rfl, hb2⟩
 have HB2 := Lib.hid (below_on' HB1.out hb2); clear hb2
 go_wp2_with fail
 go_ret2
 exact ⟨rfl, HB2.out⟩
end
section
open Go.RowKit nam
theorem infoTok : (Tryz.prog.info? 241).map (fun i => (i.zero, i.size, i.bytes)) = some (some (.agg #[.int .u8 0, .string ⟨#[]⟩, .int .i64 0, .int .i64 0]), 4, 40) := by kernel_rfl
theorem cell_four_new (w : World) (x y z u : Value) (t : TypeId) : ∀ j v, [x, y, z, u][j]? = some v → (w.alloc (.cells #[x, y, z, u] t)).cell? ((⟨w.heap.size, 0, none⟩ : Addr).add j) = some v := by
 intro j u' hj
 have hh : (w.alloc (.cells #[x, y, z, u] t)).heap[w.heap.size]? = some (.cells #[x, y, z, u] t (0, 0)) := heap_alloc_new w _
 have hadd : (⟨w.heap.size, 0, none⟩ : Addr).add j = ⟨w.heap.size, 0 + j, none⟩ := Go.WideShapes.add_plain _ 0 j
 rw [hadd, cell_of_row _ w.heap.size (0 + j) _ _ _ hh, Nat.zero_add]
 match j, hj with
 | 0, hj => exact hj
 | 1, hj => exact hj
 | 2, hj => exact hj
 | 3, hj => exact hj
def Keeps (w : World) (B : Nat) (v : Value) (done : List Tok) (k : Value) : Option Tok → Prop
 | none => k = .func (.func 190) #[] #[]
 | some t => ∃ b g cap, B ≤ b ∧ v = .slice (some ⟨g, 0, none⟩) (done.length + 1) cap ∧ k = .func (.func (kf t.kind)) #[] #[.pointer (some ⟨b, 0, none⟩)] ∧ Box w b g (4 * done.length)
theorem Keeps.on {w w' : World} {B : Nat} {v k : Value} {done : List Tok} {cur : Option Tok} (h : Keeps w B v done k cur) (hg : w.grownBy w' v.ownBlock) (ht : Toks w B v (done ++ cur.toList)) : Keeps w' B v done k cur := by
 cases cur with
 | none => exact h
 | some t =>
  obtain ⟨b, g, cap, hB, rfl, hk, hx⟩ := h
  refine ⟨b, g, cap, hB, rfl, hk, ?_⟩
  have hne : b ≠ g := by
   rintro rfl
   rcases ht.2 with ⟨h0, _⟩ | ⟨g', cap', cur, hv, _, hgg, _⟩
   · cases h0
   · simp only [Value.slice.injEq, Option.some.injEq, Addr.mk.injEq, and_true, true_and] at hv
     obtain ⟨rfl, _⟩ := hv
     have h1 : w.heap[b]? = some (.cells #[.pointer (some ⟨b, 4 * done.length, none⟩)] 265 (0, 0)) := hx
     rw [hgg] at h1
     simp only [Option.some.injEq, Obj.cells.injEq] at h1
     exact absurd h1.2.1 (by decide)
  show w'.heap[b]? = _
  rw [hg.block b hx.lt (by simp [Value.ownBlock]; exact hne)]
  exact hx
def KPost (w : World) (B : Nat) (v : Value) (done : List Tok) (k : Value) (t0 : Nat) : Goes → Ending → World → Prop
 | .yes t, e, w' => e = .returned (.tuple #[.bool true, .int .i64 0]) ∧ Toks w' B v (done ++ [t]) ∧ Keeps w' B v done k (some t) ∧ w.grownBy w' v.ownBlock
 | .no, e, w' => e = .returned (.tuple #[.bool false, .int .i64 0]) ∧ Below w.heap.size w w'
 | .big, e, w' => e = .returned (.tuple #[.bool false, .int .i64 71]) ∧ Below w.heap.size w w'
theorem none_any (r : Nat) (w : World) : Calls Tryz.prog 190 #[.int .i32 r] w fun e w' => e = .returned (.tuple #[.bool false, .int .i64 0]) ∧ Below w.heap.size w w' := by
 go_enter Tryz.func190, Tryz.ntmps190
 go_wp2
 go_ret2
 exact ⟨rfl, Below.refl _ _⟩
theorem kept_post {w : World} {B g cap : Nat} {done : List Tok} {t : Tok} {k : Value} {p r : Nat} (hw : Wf t p) (hr : okR r) (hk : Keeps w B (.slice (some ⟨g, 0, none⟩) (done.length + 1) cap) done k (some t)) (ht : Toks w B (.slice (some ⟨g, 0, none⟩) (done.length + 1) cap) (done ++ [t])) {e : Ending} {w' : World}
  (h : KeptPost w B g cap done (keepOn t r) e w') : KPost w B (.slice (some ⟨g, 0, none⟩) (done.length + 1) cap) done k p (keepOn t r) e w' := by
 cases hg : keepOn t r with
 | yes t' =>
  rw [hg] at h
  obtain ⟨h1, h2, h3⟩ := h
  refine ⟨h1, h2, ?_, h3⟩
  have hkk := (keepOn_wf hw hr hg).2
  have h4 := hk.on h3 ht
  obtain ⟨b, g', cap', hB, hv, hk', hx⟩ := h4
  exact ⟨b, g', cap', hB, hv, by rw [hkk]; exact hk', hx⟩
 | no => rw [hg] at h; exact h
 | big => rw [hg] at h; exact h
theorem keep_call {w : World} {B : Nat} {v : Value} {done : List Tok} {cur : Option Tok} {k : Value} {p r : Nat} (hw : WfO cur p) (hp : p ≤ 1000) (hr : okR r) (hk : Keeps w B v done k cur) (ht : Toks w B v (done ++ cur.toList)) :
  ∃ K cp, k = .func (.func K) #[] cp ∧ (∀ args w, (callFunc K args).run Tryz.prog w = .ok (.enter K args) w) ∧ Calls Tryz.prog K (#[.int .i32 r] ++ cp) w (KPost w B v done k p (keepO cur r)) := by
 cases cur with
 | none =>
  exact ⟨_, _, hk, enters_of Tryz.func190 (by kernel_rfl) rfl, none_any r w⟩
 | some t =>
  have hwt := hw t rfl
  have hk2 := hk
  obtain ⟨b, g, cap, hB, rfl, rfl, hx⟩ := hk
  rcases hwt.kind with h1 | h1 | h1
  · refine ⟨223, _, by rw [h1]; rfl, enters_of Tryz.func223 (by kernel_rfl) rfl, ?_⟩
    exact (name1_any h1 hwt hp hr hx ht).mono fun e w' h => kept_post hwt hr hk2 ht h
  · refine ⟨225, _, by rw [h1]; rfl, enters_of Tryz.func225 (by kernel_rfl) rfl, ?_⟩
    exact (number1_any h1 hwt hp hr hx ht).mono fun e w' h => kept_post hwt hr hk2 ht h
  · refine ⟨226, _, by rw [h1]; rfl, enters_of Tryz.func226 (by kernel_rfl) rfl, ?_⟩
    exact (sign1_any h1 hwt hp hr hx ht).mono fun e w' h => kept_post hwt hr hk2 ht h
def TokPost (s : ByteArray) (w : World) (e : Ending) (w' : World) : Prop :=
 ∃ v, e = .returned (.tuple #[v, .int .i64 (toksO s).2.1, .int .i64 (toksO s).2.2]) ∧ Toks w' w.heap.size v (toksO s).1 ∧ Below w.heap.size w w'
theorem tok_post {s : ByteArray} {w w' : World} {v : Value} {l : List Tok} {p : Nat} {c : Int} (h : toksO s = (l, p, c)) (ht : Toks w' w.heap.size v l) (hb : Below w.heap.size w w') :
  TokPost s w (.returned (.tuple #[v, .int .i64 p, .int .i64 c])) w' := ⟨v, by rw [h], by rw [h]; exact ht, hb⟩
theorem toks_nil (w : World) (B : Nat) : Toks w B (.slice none 0 0) [] := World.ownsRow_nil _ _ _ _
structure TokIn (s : ByteArray) (w : World) (u2 u5 : Value) (wr : World) (pos k : Nat) (done : List Tok) (cur : Option Tok) : Prop where
 it : wr.heap[w.heap.size]? = some (.stringIter s pos)
 row : Toks wr w.heap.size u2 (done ++ cur.toList)
 keep : Keeps wr w.heap.size u2 done u5 cur
 below : Below w.heap.size w wr
 all : scan done cur k (rn s pos) = scan [] none 0 (rn s 0)
 left : k + (rn s pos).length = (rn s 0).length
 few : done.length + cur.toList.length ≤ k
 wf : WfO cur k
def TokRel (s : ByteArray) (w : World) (u2 u5 u6 : Value) (wr : World) : Prop := ∃ pos k done cur, TokIn s w u2 u5 wr pos k done cur ∧ u6 = .int .i64 (k : Nat)
theorem tok_start (s : ByteArray) (w : World) : TokRel s w (.slice none 0 0) (.func (.func 190) #[] #[]) (.int .i64 0) (w.iter s 0) :=
 ⟨0, 0, [], none, ⟨World.iter_heap w s 0, toks_nil _ _, rfl, below_iter w s 0, rfl, by omega, Nat.le_refl _, fun t h => by cases h⟩, rfl⟩
theorem TokIn.next {s : ByteArray} {w : World} {u2 u5 : Value} {wr : World} {pos k : Nat} {done : List Tok} {cur : Option Tok} (h : TokIn s w u2 u5 wr pos k done cur) (pos' : Nat) :
  Toks (wr.iterAt w.heap.size s pos') w.heap.size u2 (done ++ cur.toList) ∧ Keeps (wr.iterAt w.heap.size s pos') w.heap.size u2 done u5 cur ∧ (wr.iterAt w.heap.size s pos').heap[w.heap.size]? = some (.stringIter s pos') ∧ Below w.heap.size w (wr.iterAt w.heap.size s pos') := by
 refine ⟨own_iterAt h.row h.it _, ?_, Lib.iterAt_heap wr w.heap.size s pos pos' h.it, Lib.below_iterAt h.below (Nat.le_refl _) s _⟩
 have hk := h.keep
 cases cur with
 | none => exact hk
 | some t =>
  obtain ⟨b, g, cap, hB, hv, hk', hx⟩ := hk
  refine ⟨b, g, cap, hB, hv, hk', ?_⟩
  have hne : b ≠ w.heap.size := by
   rintro rfl
   have h1 : wr.heap[w.heap.size]? = some (.cells #[.pointer (some ⟨g, 4 * done.length, none⟩)] 265 (0, 0)) := hx
   rw [h.it] at h1
   cases h1
  show (wr.iterAt w.heap.size s pos').heap[b]? = _
  rw [Lib.iterAt_other _ _ _ _ _ hne]
  exact hx
section
variable {s : ByteArray} {w : World} {u2 u5 : Value} {wr : World} {pos k : Nat} {done : List Tok} {cur : Option Tok}
theorem TokIn.step (h : TokIn s w u2 u5 wr pos k done cur) (hp : pos < s.size) :
  scan done cur k ((Utf8.decode s pos).1 :: rn s (pos + (Utf8.decode s pos).2)) = scan [] none 0 (rn s 0) ∧ k + 1 + (rn s (pos + (Utf8.decode s pos).2)).length = (rn s 0).length := by
 have h1 := h.all
 have h2 := h.left
 rw [rn_step s pos hp] at h1 h2
 rw [List.length_cons] at h2
 exact ⟨h1, by omega⟩
theorem TokIn.yes (h : TokIn s w u2 u5 wr pos k done cur) (hp : pos < s.size) {t : Tok} {w1 : World} (hg : keepO cur (Utf8.decode s pos).1 = .yes t)
  (hrow : Toks w1 w.heap.size u2 (done ++ [t])) (hkeep : Keeps w1 w.heap.size u2 done u5 (some t)) (hgr : (wr.iterAt w.heap.size s (pos + (Utf8.decode s pos).2)).grownBy w1 u2.ownBlock) :
  TokIn s w u2 u5 w1 (pos + (Utf8.decode s pos).2) (k + 1) done (some t) := by
 obtain ⟨n1, n2, n3, n4⟩ := h.next (pos + (Utf8.decode s pos).2)
 obtain ⟨s1, s2⟩ := h.step hp
 rw [scan_yes hg] at s1
 have hsz : w.heap.size < (wr.iterAt w.heap.size s (pos + (Utf8.decode s pos).2)).heap.size := (Array.getElem?_eq_some_iff.1 n3).1
 refine ⟨?_, hrow, hkeep, n4.grown hgr (by omega) (fun j hj => (n1.lt j hj).1), s1, s2, ?_, ?_⟩
 · rw [hgr.block w.heap.size hsz (own_ne_iter n1 n3)]
   exact n3
 · have := h.few
   cases cur with
   | none => cases hg
   | some t0 => simpa using Nat.le_succ_of_le this
 · intro t' ht'
   cases ht'
   cases cur with
   | none => cases hg
   | some t0 => exact (keepOn_wf (h.wf t0 rfl) (decode_ok s pos) hg).1
theorem TokIn.blank (h : TokIn s w u2 u5 wr pos k done cur) (hp : pos < s.size) {w1 : World} (hg : keepO cur (Utf8.decode s pos).1 = .no) (hbk : blkB (Utf8.decode s pos).1 = true)
  (hb : Below (wr.iterAt w.heap.size s (pos + (Utf8.decode s pos).2)).heap.size (wr.iterAt w.heap.size s (pos + (Utf8.decode s pos).2)) w1) :
  TokIn s w u2 (.func (.func 190) #[] #[]) w1 (pos + (Utf8.decode s pos).2) (k + 1) (done ++ cur.toList) none := by
 obtain ⟨n1, n2, n3, n4⟩ := h.next (pos + (Utf8.decode s pos).2)
 obtain ⟨s1, s2⟩ := h.step hp
 rw [scan_blank hg hbk] at s1
 have hsz : w.heap.size < (wr.iterAt w.heap.size s (pos + (Utf8.decode s pos).2)).heap.size := (Array.getElem?_eq_some_iff.1 n3).1
 refine ⟨by rw [hb.block _ hsz]; exact n3, by simpa using toks_below n1 hb, rfl, n4.trans (hb.mono (by omega)), s1, s2, ?_, fun t ht => by cases ht⟩
 have := h.few
 simp only [Option.toList_none, List.length_nil, List.length_append]
 omega
theorem TokIn.beg (h : TokIn s w u2 u5 wr pos k done cur) (hp : pos < s.size) {t : Tok} {w1 w2 w3 : World} {g cap b : Nat} (hg : keepO cur (Utf8.decode s pos).1 = .no) (hbk : blkB (Utf8.decode s pos).1 = false) (hbg : Go.Proofs.YtepdecnegihhhaaGreatDoor.lex.beg (Utf8.decode s pos).1 k = some t)
  (hb : Below (wr.iterAt w.heap.size s (pos + (Utf8.decode s pos).2)).heap.size (wr.iterAt w.heap.size s (pos + (Utf8.decode s pos).2)) w1) {o : Obj}
  (hgr : (w1.alloc o).grownBy w2 u2.ownBlock) (hrow2 : Toks w2 w.heap.size (.slice (some ⟨g, 0, none⟩) ((done ++ cur.toList).length + 1) cap) (done ++ cur.toList ++ [⟨0, [], 0, k⟩]))
  (hle : w2.heap.size ≤ b) (hx : Box w3 b g (4 * (done ++ cur.toList).length)) (hrow : Toks w3 w.heap.size (.slice (some ⟨g, 0, none⟩) ((done ++ cur.toList).length + 1) cap) (done ++ cur.toList ++ [t])) (hgr3 : w2.grownBy w3 (some g)) :
  TokIn s w (.slice (some ⟨g, 0, none⟩) ((done ++ cur.toList).length + 1) cap) (.func (.func (kf t.kind)) #[] #[.pointer (some ⟨b, 0, none⟩)]) w3 (pos + (Utf8.decode s pos).2) (k + 1) (done ++ cur.toList) (some t) := by
 obtain ⟨n1, n2, n3, n4⟩ := h.next (pos + (Utf8.decode s pos).2)
 obtain ⟨s1, s2⟩ := h.step hp
 rw [scan_beg hg hbk hbg] at s1
 have hsz : w.heap.size < (wr.iterAt w.heap.size s (pos + (Utf8.decode s pos).2)).heap.size := (Array.getElem?_eq_some_iff.1 n3).1
 have n1' := toks_below n1 hb
 have n3' : w1.heap[w.heap.size]? = some (.stringIter s (pos + (Utf8.decode s pos).2)) := by rw [hb.block _ hsz]; exact n3
 have hsz1 := hb.size
 have i2 : w2.heap[w.heap.size]? = some (.stringIter s (pos + (Utf8.decode s pos).2)) := by
  rw [hgr.block w.heap.size (by simp; omega) (own_ne_iter n1' n3'), Below.heap_alloc _ _ _ (by omega)]
  exact n3'
 have i3 : w3.heap[w.heap.size]? = some (.stringIter s (pos + (Utf8.decode s pos).2)) := by
  rw [hgr3.block w.heap.size (Array.getElem?_eq_some_iff.1 i2).1 (own_ne_iter hrow2 i2)]
  exact i2
 have b1 : Below w.heap.size w w1 := n4.trans (hb.mono (by omega))
 have b2 : Below w.heap.size w w2 := (b1.alloc (by omega) _).grown hgr (by simp; omega) (fun j hj => (n1.lt j hj).1)
 have b3 : Below w.heap.size w w3 := b2.grown hgr3 (by have := b2.size; omega) (fun j hj => by cases hj; exact (toks_lt hrow2).1)
 refine ⟨i3, hrow, ⟨b, g, cap, by have := b2.size; omega, rfl, rfl, hx⟩, b3, s1, s2, ?_, fun t' ht' => by cases ht'; exact (beg_wf (decode_ok s pos) hbg).1⟩
 have := h.few
 simp only [Option.toList_some, List.length_singleton, List.length_append]
 omega
end
end
section
open Go.RowKit nam
theorem len_snoc {α : Type} (l : List α) (x : α) : (l ++ [x]).length = l.length + 1 := by simp
theorem begun_at {w : World} {B g cap r p : Nat} {done : List Tok} {t : Tok} (hr : okR r) (hg : beg r p = some t) (h : Toks w B (.slice (some ⟨g, 0, none⟩) (done.length + 1) cap) (done ++ [⟨0, [], 0, p⟩])) :
  Calls Tryz.prog 191 #[.pointer (some ⟨g, done.length * 4, none⟩), .int .i32 r] w (BegunPost w B g cap done t) := by
 rw [Nat.mul_comm]; exact begun_yes hr hg h
theorem tok_beg {s : ByteArray} {w : World} {u2 u5 : Value} {wr : World} {pos k : Nat} {done D : List Tok} {cur : Option Tok} (h : TokIn s w u2 u5 wr pos k done cur) (hp : pos < s.size) {t : Tok} {w1 w2 w3 : World} {g cap b : Nat} (hg : keepO cur (Utf8.decode s pos).1 = .no) (hbk : blkB (Utf8.decode s pos).1 = false) (hbg : beg (Utf8.decode s pos).1 k = some t)
  (hb : Below (wr.iterAt w.heap.size s (pos + (Utf8.decode s pos).2)).heap.size (wr.iterAt w.heap.size s (pos + (Utf8.decode s pos).2)) w1) {o : Obj}
  (hgr : (w1.alloc o).grownBy w2 u2.ownBlock) (hrow2 : Toks w2 w.heap.size (.slice (some ⟨g, 0, none⟩) (D.length + 1) cap) (D ++ [⟨0, [], 0, k⟩]))
  (hle : w2.heap.size ≤ b) (hx : Box w3 b g (4 * D.length)) (hrow : Toks w3 w.heap.size (.slice (some ⟨g, 0, none⟩) (D.length + 1) cap) (D ++ [t])) (hgr3 : w2.grownBy w3 (some g)) (hD : done ++ cur.toList = D) :
  TokIn s w (.slice (some ⟨g, 0, none⟩) (D.length + 1) cap) (.func (.func (kf t.kind)) #[] #[.pointer (some ⟨b, 0, none⟩)]) w3 (pos + (Utf8.decode s pos).2) (k + 1) D (some t) := by
 subst hD
 exact h.beg hp hg hbk hbg hb hgr hrow2 hle hx hrow hgr3
theorem tok_bad {w wi w1 w2 w3 : World} {u2 : Value} {D : List Tok} {o : Obj} (h4 : Below w.heap.size w wi) (hb : Below wi.heap.size wi w1) (hr : Toks wi w.heap.size u2 D) (hg : (w1.alloc o).grownBy w2 u2.ownBlock) (hb3 : Below w2.heap.size w2 w3) : Below w.heap.size w w3 := by
 have s1 := h4.size
 have s2 := hb.size
 have b2 : Below w.heap.size w w2 := ((h4.trans (hb.mono s1)).alloc (by omega) o).grown hg (by simp; omega) (fun j hj => (hr.lt j hj).1)
 exact b2.trans (hb3.mono b2.size)
set_option maxRecDepth 1000000 in
theorem tokens_long (s : ByteArray) (w : World) (hs : 400 < s.size) : Calls Tryz.prog 160 #[.string s] w (TokPost s w) := by
 go_enter Tryz.func160, Tryz.ntmps160
 go_wp2
 go_step3
 go_wp2
 rw [Exit.noGoto_ret]
 go_ret3
 exact tok_post (by unfold toksO; rw [if_pos hs]) (toks_nil _ _) (Below.refl _ _)
set_option maxHeartbeats 1600000 in
set_option maxRecDepth 1000000 in
theorem tokens_any (s : ByteArray) (w : World) : Calls Tryz.prog 160 #[.string s] w (TokPost s w) := by
 by_cases h400 : 400 < s.size
 · exact tokens_long s w h400
 obtain ⟨i0, hi, hz0, hz1, hz2⟩ := info_parts infoTok
 have hO : toksO s = scan [] none 0 (rn s 0) := by unfold toksO; rw [if_neg h400]
 have HO := Lib.hid hO; clear hO
 have hrl := rn_length s 0
 go_enter Tryz.func160, Tryz.ntmps160
 go_wp2
 go_step3
 go_wp2
 go_step3
 go_wp2
 go_loopw [2, 4, 5, 6] (fun u2 u4 u5 u6 wr => TokRel s w u2 u5 u6 wr ∧ u4 = .int .i64 0) (fun _ _ _ _ wr => s.size - wr.iterPos w.heap.size)
 case atStart => exact ⟨tok_start s w, rfl⟩
 case round =>
  obtain ⟨⟨pos, k, done, cur, HI, rfl⟩, rfl⟩ := hrel
  have hit := HI.it
  have hleft := HI.left
  have hk400 : k ≤ 400 := by omega
  have hk1 : (k : Int) + 1 ≤ 9223372036854775807 := by omega
  have HH := Lib.hid HI
  clear HI
  by_cases hp : pos < s.size
  · have hnx : ∀ ty, (Instr.next (.pointer (some ⟨w.heap.size, 0, none⟩)) true ty).run Tryz.prog wr = _ := fun ty => Lib.run_next_any_at wr w.heap.size s pos ty hit hp
    obtain ⟨n1, n2, n3, n4⟩ := HH.out.next (pos + (Utf8.decode s pos).2)
    obtain ⟨K, cp, rfl, hen, hcall⟩ := keep_call (r := (Utf8.decode s pos).1) HH.out.wf (by omega) (decode_ok s pos) n2 n1
    have HC := Lib.hid hcall
    have HT := Lib.hid hit
    clear hcall hit n1 n2 n3 n4 hleft
    cases hg : keepO cur (Utf8.decode s pos).1 with
    | yes t =>
     have HG := Lib.hid hg
     clear hg
     go_wp2_with fail
     refine HC.out.mono ?_
     rintro e w1 h
     rw [HG.out] at h
     obtain ⟨rfl, r1, r2, r3⟩ := h
     have HR := Lib.hid (HH.out.yes hp HG.out r1 r2 r3)
     clear r1 r2 r3
     go_wp2_with fail
     go_roundw
     case rel => exact ⟨⟨_, _, _, _, HR.out, by go_num⟩, rfl⟩
     case measure => simp only [World.iterPos, HR.out.it, HT.out]; have := width_pos s pos hp; omega
    | big =>
     have HG := Lib.hid hg
     have hcur : ∃ t, cur = some t := by
      cases cur with
      | none => cases hg
      | some t => exact ⟨t, rfl⟩
     obtain ⟨t, rfl⟩ := hcur
     obtain ⟨n1, ⟨b, g, cap, hB, rfl, hkv, hx⟩, n3, n4⟩ := HH.out.next (pos + (Utf8.decode s pos).2)
     have HN1 := Lib.hid n1; have HN4 := Lib.hid n4
     have hfew : done.length + 1 ≤ k := by have := HH.out.few; simpa using this
     have hlen : (done.length : Int) + 1 ≤ 9223372036854775807 := by omega
     clear hg n1 n3 n4 hx hB
     go_wp2_with fail
     refine HC.out.mono ?_
     rintro e w1 h
     rw [HG.out] at h
     obtain ⟨rfl, r1⟩ := h
     have HT1 := Lib.hid (toks_below HN1.out r1)
     have HB1 := Lib.hid (HN4.out.trans (r1.mono HN4.out.size))
     obtain ⟨_, _, _, hat, _⟩ := last_cells HT1.out
     clear r1
     go_wp2_with fail
     have hw1 : IntKind.i64.wrap (done.length : Int) = done.length := IntWalk.i64_in _ (by omega)
     have hw2 : (done.length : Int) + 1 - 1 = done.length := Int.add_sub_cancel _ _
     have hx1 : (done.length : Int) < (done.length : Int) + 1 := by omega
     have hx2 : (0 : Int) ≤ (done.length : Int) := by omega
     rw [Nat.mul_comm] at hat
     go_region
     all_goals
      go_wp2_with fail
      rw [Exit.noGoto_ret]
      go_ret3
      exact tok_post (HO.out.trans ((HH.out.step hp).1.symm.trans (scan_big HG.out))) (toks_nil _ _) ⟨HB1.out.os, HB1.out.tape, HB1.out.output, HB1.out.size, HB1.out.block⟩
    | no =>
     have HG := Lib.hid hg
     clear hg
     cases hbk : blkB (Utf8.decode s pos).1 with
     | true =>
      have HB := Lib.hid hbk
      have hbk' : (((Utf8.decode s pos).1 : Int) == 32) = true ∨ (((Utf8.decode s pos).1 : Int) == 32) = false ∧ (((Utf8.decode s pos).1 : Int) == 9) = true := by
       unfold blkB at hbk
       simp at hbk ⊢
       omega
      clear hbk
      rcases hbk' with h32 | ⟨h32, h9⟩
      all_goals
       go_wp2_with fail
       refine HC.out.mono ?_
       rintro e w1 h
       rw [HG.out] at h
       obtain ⟨rfl, r1⟩ := h
       have HR := Lib.hid (HH.out.blank hp HG.out HB.out r1)
       clear r1
       go_wp2_with fail
       go_roundw
       case rel => exact ⟨⟨_, _, _, _, HR.out, by go_num⟩, rfl⟩
       case measure => simp only [World.iterPos, HR.out.it, HT.out]; have := width_pos s pos hp; omega
     | false =>
      have HB := Lib.hid hbk
      have hbk' : (((Utf8.decode s pos).1 : Int) == 32) = false ∧ (((Utf8.decode s pos).1 : Int) == 9) = false := by
       unfold blkB at hbk
       simp at hbk ⊢
       omega
      obtain ⟨h32, h9⟩ := hbk'
      clear hbk
      have hfew : (done ++ cur.toList).length ≤ k := by have := HH.out.few; simpa using this
      have hsz := HH.out.below.size
      obtain ⟨n1, n2, n3, n4⟩ := HH.out.next (pos + (Utf8.decode s pos).2)
      obtain ⟨D, hD⟩ : ∃ D, done ++ cur.toList = D := ⟨_, rfl⟩
      have hn1 : Toks (wr.iterAt w.heap.size s (pos + (Utf8.decode s pos).2)) w.heap.size u2 D := hD ▸ n1
      rw [hD] at hfew
      have HN1 := Lib.hid hn1; have HN4 := Lib.hid n4; have HD := Lib.hid hD
      clear n1 n2 n3 n4 hn1 hD
      go_wp2_with fail
      refine HC.out.mono ?_
      rintro e w1 h
      rw [HG.out] at h
      obtain ⟨rfl, r1⟩ := h
      have HB1 := Lib.hid r1
      have ht1 : w1.ownsRow w.heap.size 241 4 u2 D.length (flat D) := toks_below HN1.out r1
      have HT1 := Lib.hid ht1
      have hs1 := HN4.out.size
      have hs2 := r1.size
      have HSZ : Hid (∀ o, w.heap.size ≤ (w1.alloc o).heap.size) := Lib.hid (fun o => by rw [World.size_alloc]; omega)
      clear r1 hs1 hs2 hsz ht1
      go_wp2_with (at_builtin; refine wpList_append_own _ rfl (.tmp 24) (.tmp 27) 231 rfl w.heap.size 241 i0 (.agg #[.int .u8 0, .string ⟨#[]⟩, .int .i64 0, .int .i64 0]) 4 40 Tryz.underlying231 hi hz0 hz1 hz2 rfl (by decide) _ _ _ rfl (HT1.out.alloc _) ⟨_, 0, none⟩ 1 1 [.int .u8 0, .string ⟨#[]⟩, .int .i64 0, .int .i64 k] rfl rfl (cell_four_new _ _ _ _ _ _) (by simp [Value.oneCell']) (by unfold maxLen; omega) (by omega) (HSZ.out _) ?_)
      intro v4 w2 k4 g4 _
      have hform : ∃ g cap, v4 = .slice (some ⟨g, 0, none⟩) (D.length + 1) cap := by
       rcases k4.2 with ⟨_, h0⟩ | ⟨g, cap, _, hv, _⟩
       · omega
       · exact ⟨g, cap, hv⟩
      obtain ⟨g, cap, rfl⟩ := hform
      have hrow2 : Toks w2 w.heap.size (.slice (some ⟨g, 0, none⟩) (D.length + 1) cap) (D ++ [⟨0, [], 0, k⟩]) := by
       unfold Toks
       rw [flat_snoc, len_snoc]
       exact k4
      have HR2 := Lib.hid hrow2; have HG2 := Lib.hid g4
      clear k4 g4 hrow2
      have hlen : (D.length : Int) + 1 ≤ 9223372036854775807 := by omega
      have hw2 : (D.length : Int) + 1 - 1 = D.length := Int.add_sub_cancel _ _
      cases hbg : beg (Utf8.decode s pos).1 k with
      | some t =>
       have HBG := Lib.hid hbg
       clear hbg
       go_wp2_with fail
       refine (begun_at (decode_ok s pos) HBG.out HR2.out).mono ?_
       rintro e w3 ⟨b, hle, rfl, hx, ht, hgr⟩
       have HN := Lib.hid (tok_beg HH.out hp HG.out HB.out HBG.out HB1.out HG2.out HR2.out hle hx ht hgr HD.out)
       clear hle hx ht hgr
       go_wp2_with fail
       go_roundw
       case rel => exact ⟨⟨_, _, _, _, HN.out, by go_num⟩, rfl⟩
       case measure => simp only [World.iterPos, HN.out.it, HT.out]; have := width_pos s pos hp; omega
      | none =>
       have HBG := Lib.hid hbg
       clear hbg
       go_wp2_with fail
       refine (begun_no (decode_ok s pos) HBG.out).mono ?_
       rintro e w3 ⟨rfl, hb3⟩
       obtain ⟨_, _, _, hat, _⟩ := last_cells (toks_below HR2.out hb3)
       rw [Nat.mul_comm] at hat
       have HB3 := Lib.hid (tok_bad HN4.out HB1.out HN1.out HG2.out hb3)
       clear hb3
       have hw1 : IntKind.i64.wrap (D.length : Int) = D.length := IntWalk.i64_in _ (by omega)
       have hx1 : (D.length : Int) < (D.length : Int) + 1 := by omega
       have hx2 : (0 : Int) ≤ (D.length : Int) := by omega
       go_wp2_with fail
       go_region
       all_goals
        go_wp2_with fail
        rw [Exit.noGoto_ret]
        go_ret3
        exact tok_post (HO.out.trans ((HH.out.step hp).1.symm.trans (scan_bad HG.out HB.out HBG.out))) (toks_nil _ _) ⟨HB3.out.os, HB3.out.tape, HB3.out.output, HB3.out.size, HB3.out.block⟩
  · have hnx : ∀ ty, (Instr.next (.pointer (some ⟨w.heap.size, 0, none⟩)) true ty).run Tryz.prog wr = _ := fun ty => Lib.run_next_end_at wr w.heap.size s pos ty hit hp
    have HE := Lib.hid (HO.out.trans (HH.out.all.symm.trans (by rw [rn_end s pos hp, scan_nil])))
    clear hit hleft
    go_wp2_with fail
    rw [Exit.noGoto_ret]
    go_ret3
    exact tok_post HE.out HH.out.row HH.out.below
end
section
open Go.RowKit nam
theorem flat_get : ∀ (l : List Tok) (j : Nat) (t : Tok) (i : Nat), l[j]? = some t → i < 4 → (flat l)[j * 4 + i]? = (tokV t)[i]?
 | [], j, t, i, h, _ => by simp at h
 | x :: l, 0, t, i, h, hi => by
  simp at h
  subst h
  have e : flat (x :: l) = tokV x ++ flat l := rfl
  rw [e, Nat.zero_mul, Nat.zero_add, List.getElem?_append_left (by exact hi)]
 | x :: l, j + 1, t, i, h, hi => by
  have e : flat (x :: l) = tokV x ++ flat l := rfl
  have e4 : (tokV x).length = 4 := rfl
  rw [e, List.getElem?_append_right (by rw [e4]; omega), e4, show (j + 1) * 4 + i - 4 = j * 4 + i by omega]
  exact flat_get l j t i (by simpa using h) hi
theorem toks_range {w : World} {B g n cap j : Nat} {l : List Tok} {t : Tok} (h : Toks w B (.slice (some ⟨g, 0, none⟩) n cap) l) (hn : n = l.length) (ht : l[j]? = some t) : w.rangeAt g (j * 4) (tokV t) := by
 subst hn
 intro i v hv
 have hi : i < 4 := (List.getElem?_eq_some_iff.1 hv).1
 have hj : j < l.length := (List.getElem?_eq_some_iff.1 ht).1
 rw [World.ownsRow.cellAt h (j * 4 + i) (by omega), flat_get l j t i ht hi]
 exact hv
theorem toks_form {w : World} {B : Nat} {v : Value} {l : List Tok} (h : Toks w B v l) : ∃ a c, v = .slice a l.length c ∧ (0 < l.length → ∃ g, a = some ⟨g, 0, none⟩) := by
 rcases h.2 with ⟨rfl, h0⟩ | ⟨g, cap, _, rfl, _⟩
 · exact ⟨none, 0, by rw [h0], fun h1 => by omega⟩
 · exact ⟨_, cap, rfl, fun _ => ⟨g, rfl⟩⟩
end
end Go.Proofs.YtepdecnegihhhaaGreatDoor.lex

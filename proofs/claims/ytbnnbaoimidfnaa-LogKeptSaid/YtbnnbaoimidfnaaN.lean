/- LogRow returns true: the walk. -/
import Derived.Test.YtbnnbaoimidfnaaM
import Derived.Deep.MidRow
import Derived.Laws.StructEq
import Derived.Deep.DeepCutAuto
namespace Go.Proofs.Ytbnnbaoimidfnaa.lg
set_option linter.unusedSimpArgs false
set_option linter.unusedVariables false
open Go.RowKit byt frm dsk
attribute [local go_sem ↓] Go.wp_at_zero Go.wp_at_succ

theorem slice_row {w : World} {a : Option Addr} {n cap m : Nat} {xs : List Value} (h : Row w 38 4 (.slice a n cap) n xs) (hm : m ≤ n) (w' : World) :
    (Instr.slice 36 (.slice a n cap) none (some (.int .i64 (m : Nat))) (some (.int .i64 (m : Nat)))).run Try.prog w' = .ok (.slice a m m) w' := by
  have hu : Try.prog.underlying 36 = some (.slice (Try.prog.elem 36)) := by kernel_rfl
  have hs : (sizeOf (Try.prog.elem 36)).run Try.prog w' = .ok 4 w' := by kernel_rfl
  rw [run_slice_any w' 36 a n cap hu]
  have hcap : m ≤ cap := by
    rcases h.form with ⟨he, h0⟩ | ⟨g, c, he, h1, _⟩
    · simp only [Value.slice.injEq] at he; omega
    · simp only [Value.slice.injEq] at he; omega
  have hb : (Instr.sliceBounds true n cap none (some (.int .i64 (m : Nat))) (some (.int .i64 (m : Nat)))).run Try.prog w' = .ok (0, m, m) w' := by
    simp [Instr.sliceBounds, run_sliceBound, hcap]
  rw [hb]
  simp only [Result.andThen, hs]
  rcases h.form with ⟨he, h0⟩ | ⟨g, c, he, h1, _⟩
  · simp only [Value.slice.injEq] at he
    obtain ⟨rfl, _, rfl⟩ := he
    simp [sliced]
  · simp only [Value.slice.injEq] at he
    obtain ⟨rfl, _, rfl⟩ := he
    simp [sliced, Addr.add]
theorem row_cut {w : World} {a : Option Addr} {n cap m : Nat} {L : List Fr} (h : Row w 38 4 (.slice a n cap) n (recRows L)) (hm : m ≤ n) : Row w 38 4 (.slice a m m) m (recRows (L.take m)) := by
  rw [← recRows_take]
  rcases h.form with ⟨he, h0⟩ | ⟨g, c, he, h1, _⟩
  · simp only [Value.slice.injEq] at he
    obtain ⟨rfl, _, rfl⟩ := he
    obtain rfl : m = 0 := by omega
    simp only [Nat.zero_mul, List.take_zero]
    exact Row.nil _ _ _
  · simp only [Value.slice.injEq] at he
    obtain ⟨rfl, _, rfl⟩ := he
    exact h.cut hm (Nat.le_refl _) (by omega)
theorem neq_rec (k : Int) (p : ByteArray) (w : World) : (binOp .neq 38 (.agg #[.int .u8 k, .string p, .bool false, .int .i64 0]) (.agg #[.int .u8 k, .string p, .bool false, .int .i64 0])).run Try.prog w = .ok (.bool false) w := by
  have u3 := Try.underlying3
  have a3 := Try.isAgg3
  have z3 := Try.sizeOf3
  have u4 := Try.underlying4
  have a4 := Try.isAgg4
  have z4 := Try.sizeOf4
  have u5 := Try.underlying5
  have a5 := Try.isAgg5
  have z5 := Try.sizeOf5
  have u9 := Try.underlying9
  have a9 := Try.isAgg9
  have z9 := Try.sizeOf9
  have hS : Try.prog.underlying 38 = some (.struct (Try.prog.fieldsOf 38)) := by kernel_rfl
  have hp : Try.prog.stoodInHeld 38 = false := by kernel_rfl
  rw [run_neq_struct, show (10000 : Nat) = 9999 + 1 from rfl, run_equalIn_agg w 9999 38 _ _ hS hp]
  simp only [Program.fieldsOf, Try.underlying38]
  go_simp
theorem guard38 : Try.prog.eqGuardType Try.prog.depth 38 = false := by kernel_rfl

theorem own_len (a : Option Addr) (n c m c' : Nat) : (Value.slice a n c).ownBlock = (Value.slice a m c').ownBlock := by cases a <;> rfl
theorem row_pushed {B lp d n g cap bx : Nat} {w0 w3 w5 : World} {x : D} {y : Lg} {v : Value} {o : Obj} {n' : Nat} {xs : List Value} (h : LogW B w0 lp d x y (fun k => k = bx ∨ v.ownBlock = some k) w3) (hown : ∀ g', v.ownBlock = some g' → B ≤ g') (hbx : B ≤ bx) (hne : v.ownBlock ≠ some bx)
    (hrow3 : Row w3 38 4 v n' xs) (hg : (w3.alloc o).grownBy w5 v.ownBlock) (hat : v.ownBlock = some g ∨ g = w3.heap.size + 1) (hlt : g < w5.heap.size) :
    LogW B w0 lp d x y (fun k => k = bx ∨ (Value.slice (some ⟨g, 0, none⟩) n cap).ownBlock = some k) w5 ∧ B ≤ g ∧ g ≠ bx ∧ w5.heap[bx]? = w3.heap[bx]? := by
  have hs := hg.size
  have hs' : w3.heap.size + 1 ≤ w5.heap.size := by simpa using hs
  have hb3 := h.lt (.inl rfl : bx = bx ∨ _)
  have hB3 : B ≤ w3.heap.size := by omega
  refine ⟨h.move (w' := w5) ⟨hg.os, hg.tape, hg.output, by omega, fun k hk hn => ?_⟩ (fun k hk => ?_) fun k hk => ?_, ?_, ?_, ?_⟩
  · rw [hg.block k (by simp; omega) fun e => hn (.inr e.symm), heap_alloc_old w3 o hk]
  · rcases hk with rfl | hk
    · exact hbx
    · exact hown k hk
  · rcases hk with rfl | hk
    · exact ⟨.inl (.inl rfl), by omega⟩
    · simp [Value.ownBlock] at hk; subst hk
      refine ⟨?_, hlt⟩
      rcases hat with e | e
      · exact .inl (.inr e)
      · exact .inr (by omega)
  · rcases hat with e | e
    · exact hown g e
    · omega
  · rintro rfl
    rcases hat with e | e
    · exact hne e
    · omega
  · rw [hg.block bx (by simp; omega) fun e => hne e.symm, heap_alloc_old w3 o hb3]
def RowRel (w : World) (lp : Nat) (l : List Rc) (v i : Value) (wr : World) : Prop :=
  ∃ (k : Nat) (x : D) (y : Lg), k ≤ l.length ∧ i = .int .i64 k ∧ LogW w.heap.size w lp w.heap.size x y (fun g => v.ownBlock = some g) wr ∧ Row wr 38 4 v y.recs.length (recRows y.recs) ∧ (∀ g, v.ownBlock = some g → w.heap.size ≤ g) ∧ Good x y k
theorem row_next {w wr w' : World} {lp k : Nat} {l : List Rc} {v i : Value} {x : D} {y : Lg} {bx : Nat} (hk : k ≤ l.length) (hi : i = .int .i64 k) (h : LogW w.heap.size w lp w.heap.size x y (fun g => g = bx ∨ v.ownBlock = some g) wr) (hrow : Row wr 38 4 v y.recs.length (recRows y.recs)) (hown : ∀ g, v.ownBlock = some g → w.heap.size ≤ g)
    (hg : Good x y k) (hb : Below wr.heap.size wr w') : RowRel w lp l v i w' :=
  ⟨k, x, y, hk, hi, (drop_box h fun g hg => .inr hg).on hb, hrow.below hb, hown, hg⟩
theorem below_dr' {w w' : World} {B : Nat} (h : Below B w w') : Below B w w'.drew := ⟨h.os, h.tape, h.output, h.size, h.block⟩
theorem newRow (w : World) : HereW w.heap.size w w.heap.size (D.fresh 4194304) (fun _ => False) w → True := fun _ => trivial
set_option maxHeartbeats 6400000 in
set_option maxRecDepth 100000 in
theorem law_row (l : List Rc) (a : Option Addr) (cap : Nat) (w : World) (hr : Rcs w w.heap.size a l) (hl : l.length ≤ cap) (hc : cap ≤ 9223372036854775807) (hf : ∀ p ∈ l, p.fit) :
    Calls Try.prog 5 #[.slice a l.length cap] w fun e w' => e = .returned (.bool true) ∧ Below w.heap.size w w' := by
  by_cases hbig : 100 < l.length
  · have hbig' : (100 : Int) < (l.length : Int) := by omega
    clear hr hl hf hbig
    go_enter Try.func5, Try.ntmps5
    go_wp2_with fail
    refine (works_any _).mono ?_
    rintro e w' ⟨rfl, hb⟩
    have HB := Lib.hid hb; clear hb
    go_wp2_with fail
    go_ret
    exact ⟨rfl, HB.out⟩
  · obtain ⟨i0, hi, hz0', hz1', hz2'⟩ := info38
    have hbig' : (l.length : Int) ≤ 100 := by omega
    have HR := Lib.hid hr
    have HF := Lib.hid hf
    clear hr hf hbig
    go_enter Try.func5, Try.ntmps5
    go_wp2_with fail
    refine (newBig w).mono ?_
    rintro e a1 ⟨rfl, h⟩
    have H := Lib.hid h; clear h
    go_wp2_with fail
    refine (openBig 0 (by decide) H.out).mono ?_
    rintro e a2 ⟨lp, rfl, h⟩
    have H := Lib.hid h; clear h
    go_wp2_with fail
    go_loopw [7, 34] (fun v i wr => RowRel w lp l v i wr) (fun _ i _ => l.length - (intOf i).toNat)
    case atStart => exact ⟨0, _, _, Nat.zero_le _, rfl, drop_box H.out (fun g hg => by simp [Value.ownBlock] at hg), Row.nil _ _ _, fun g hg => by simp [Value.ownBlock] at hg, ⟨rfl, rfl, rfl, (by show dsk.total (fun _ => empty) = _; rw [total_empty]; rfl), (fun r hr => by simp at hr), Nat.le_refl _, Nat.le_refl _⟩⟩
    case round =>
      rename World => Wr
      obtain ⟨k, x, y, hk, rfl, hlog, hrow, hown, hgood⟩ := hrel
      obtain ⟨a3, cap3, rfl⟩ := hrow.len
      obtain ⟨L, hL⟩ : ∃ L, y.recs = L := ⟨_, rfl⟩
      obtain ⟨n, hn⟩ : ∃ n, L.length = n := ⟨_, rfl⟩
      rw [hL, hn] at hrow hlog hown ⊢
      have HLG := Lib.hid hlog
      have HROW := Lib.hid hrow
      have HOWN := Lib.hid hown
      have HG := Lib.hid hgood
      have HL0 := Lib.hid hL
      have HN0 := Lib.hid hn
      clear hlog hrow hown hgood hL hn
      by_cases hlt : k < l.length
      · obtain ⟨b, o, rfl, hbl, hcs⟩ := HR.out (by rintro rfl; simp at hlt)
        obtain ⟨p, ep⟩ : ∃ p, l.getD k noRc = p := ⟨_, rfl⟩
        have hck : Wr.rangeAt b (o + k * 4) p.cells := by
          intro j v hv
          rw [← ep] at hv
          exact (HLG.out.below.cell (p := ⟨b, o + k * 4 + j, none⟩) hbl).trans (hcs k hlt j v hv)
        have hfit : p.fit := by
          rw [← ep, List.getD_eq_getElem?_getD, List.getElem?_eq_getElem hlt]
          exact HF.out _ (List.getElem_mem hlt)
        obtain ⟨kd, t, sy, c⟩ := p
        obtain ⟨hp1, hp2, hp3⟩ := hfit
        have HC := Lib.hid hck
        dsimp only [Rc.cells] at HC hp1 hp2 hp3
        have HBX := Lib.hid (heap_alloc_new Wr (.cells #[.int .u8 (kd : Nat), .string t, .bool sy, .int .i64 c] 38))
        have H1 := Lib.hid ((new_box HLG.out (.cells #[.int .u8 (kd : Nat), .string t, .bool sy, .int .i64 c] 38)).on (below_dr (Below.refl _ _)))
        clear hcs hck ep
        have hkl : (k : Int) < (l.length : Int) := by omega
        have HK := Lib.hid (show k + 1 ≤ l.length by omega)
        by_cases ht : 1000 < t.size
        · have ht' : (1000 : Int) < (t.size : Int) := by omega
          go_wp2_with (first | (refine wpList_load_mid rfl 38 (.tmp 36) rfl b (o + k * 4) rfl [.int .u8 (kd : Nat), .string t, .bool sy, .int .i64 c] _ HC.out Try.underlying38 rfl info38r ?_))
          refine (works_any _).mono ?_
          rintro e w' ⟨rfl, hb⟩
          have H2 := Lib.hid ((new_box HLG.out (.cells #[.int .u8 (kd : Nat), .string t, .bool sy, .int .i64 c] 38)).on hb); clear hb
          go_wp2_with fail
          go_ret
          exact ⟨rfl, H2.out.below⟩
        · have ht' : (t.size : Int) ≤ 1000 := by omega
          have HC1 := Lib.hid (show (Wr.alloc (.cells #[.int .u8 (kd : Nat), .string t, .bool sy, .int .i64 c] 38)).drew.cell? ⟨Wr.heap.size, 0, none⟩ = some (.int .u8 (kd : Nat)) ∧ (Wr.alloc (.cells #[.int .u8 (kd : Nat), .string t, .bool sy, .int .i64 c] 38)).drew.cell? ⟨Wr.heap.size, 1, none⟩ = some (.string t) from
            ⟨(box4 (r := ⟨kd, t, sy, c⟩) HBX.out).1, (box4 (r := ⟨kd, t, sy, c⟩) HBX.out).2.1⟩)
          obtain ⟨E, x3, y3, hput⟩ : ∃ E x3 y3, putR x y kd t = (E, x3, y3) := ⟨_, _, _, rfl⟩
          have HPUT := Lib.hid hput
          have HLN := Lib.hid (And.intro (show x.loose.length ≤ 1099511627776 by have := HG.out.loose; omega) (And.intro (show t.size ≤ 65536 by omega) hp1))
          have hne : (Value.slice a3 n cap3).ownBlock ≠ some Wr.heap.size := fun e => by have := HROW.out.lt e; omega
          have HNE := Lib.hid hne
          have HWB := Lib.hid (show w.heap.size ≤ Wr.heap.size from HLG.out.below.size)
          by_cases hkd : kd = 0
          · obtain ⟨rfl, rfl, rfl⟩ : E = 2 ∧ x3 = x ∧ y3 = y := by
              rcases putR_cases hput with ⟨h, _⟩ | ⟨h1, h2, h3, _⟩
              · omega
              · exact ⟨h1, h2, h3⟩
            have hk0 : (kd : Int) ≤ 0 := by omega
            have HG3 := Lib.hid (show Good x3 y3 (k + 1) from ⟨HG.out.off, HG.out.left, HG.out.room, HG.out.total, HG.out.small, by have := HG.out.len; omega, by have := HG.out.loose; omega⟩)
            have HO3 := Lib.hid HLN.out.1
            have HL3 := HL0
            have HN3 := HN0
            have HOWN3 := HOWN
            obtain ⟨L3, rfl⟩ : ∃ L3, L3 = L := ⟨_, rfl⟩
            obtain ⟨n3, rfl⟩ : ∃ n3, n3 = n := ⟨_, rfl⟩
            clear hput hkd ht hp1 hp2 hp3 hne hlt hbl
            go_wp2_with (first | (refine wpList_load_mid rfl 38 (.tmp 36) rfl b (o + k * 4) rfl [.int .u8 (kd : Nat), .string t, .bool sy, .int .i64 c] _ HC.out Try.underlying38 rfl info38r ?_))
            refine wp_region_peel2 (by kernel_rfl) (by simp only [List.dropLast_cons_cons, List.dropLast_singleton]; exact rfl) rfl (by kernel_rfl) ?_
            refine wpAny_of_held (S := fun w' => w'.cell? ⟨Wr.heap.size, 0, none⟩ = some (.int .u8 (kd : Nat)) ∧ w'.cell? ⟨Wr.heap.size, 1, none⟩ = some (.string t)) _ _ _ _ ?_
            have hHeld := HC1.out
            refine wpAnyH_take (i := 0) (v := ?v1) rfl (by kernel_rfl) (by kernel_rfl) (by kernel_rfl) (fun _ _ _ h => h) (Or.inl ⟨by rfl, ?hy1⟩) (by assumption) ?rest1
            case hy1 => (intro w0 hSw; (try dsimp only at hSw); go_simp; try with_reducible rfl)
            try simp only [Act.put, List.getElem_toArray, List.getElem_cons_zero, List.getElem_cons_succ, List.setIfInBounds_toArray, List.set_cons_zero, List.set_cons_succ]
            refine wpAnyH_take (i := 1) (v := ?v2) rfl (by kernel_rfl) (by kernel_rfl) (by kernel_rfl) (fun _ _ _ h => h) (Or.inl ⟨by rfl, ?hy2⟩) (by assumption) ?rest2
            case hy2 => (intro w0 hSw; (try dsimp only at hSw); go_simp; try with_reducible rfl)
            try simp only [Act.put, List.getElem_toArray, List.getElem_cons_zero, List.getElem_cons_succ, List.setIfInBounds_toArray, List.set_cons_zero, List.set_cons_succ]
            refine wpAnyH_take (i := 2) (v := ?v3) rfl (by kernel_rfl) (by kernel_rfl) (by kernel_rfl) (fun _ _ _ h => h) (Or.inl ⟨by rfl, ?hy3⟩) (by assumption) ?rest3
            case hy3 => (intro w0 hSw; (try dsimp only at hSw); go_simp; try with_reducible rfl)
            try simp only [Act.put, List.getElem_toArray, List.getElem_cons_zero, List.getElem_cons_succ, List.setIfInBounds_toArray, List.set_cons_zero, List.set_cons_succ]
            refine wpAnyH_take (i := 3) (v := ?v4) rfl (by kernel_rfl) (by kernel_rfl) (by kernel_rfl) (fun _ _ _ h => h) (Or.inl ⟨by rfl, ?hy4⟩) (by assumption) ?rest4
            case hy4 => (intro w0 hSw; (try dsimp only at hSw); go_simp; try with_reducible rfl)
            try simp only [Act.put, List.getElem_toArray, List.getElem_cons_zero, List.getElem_cons_succ, List.setIfInBounds_toArray, List.set_cons_zero, List.set_cons_succ]
            refine wpAnyH_take (i := 4) (v := ?v5) rfl (by kernel_rfl) (by kernel_rfl) (by kernel_rfl) (fun _ _ _ h => h) (Or.inl ⟨by rfl, ?hy5⟩) (by assumption) ?rest5
            case hy5 => (intro w0 hSw; (try dsimp only at hSw); go_simp; try with_reducible rfl)
            try simp only [Act.put, List.getElem_toArray, List.getElem_cons_zero, List.getElem_cons_succ, List.setIfInBounds_toArray, List.set_cons_zero, List.set_cons_succ]
            refine wpAnyH_take (i := 7) (v := ?v6) rfl (by kernel_rfl) (by kernel_rfl) (by kernel_rfl) (fun _ _ _ h => h) (Or.inl ⟨by rfl, ?hy6⟩) (by assumption) ?rest6
            case hy6 => (intro w0 hSw; (try dsimp only at hSw); go_simp; try with_reducible rfl)
            try simp only [Act.put, List.getElem_toArray, List.getElem_cons_zero, List.getElem_cons_succ, List.setIfInBounds_toArray, List.set_cons_zero, List.set_cons_succ]
            refine wpAnyH_take (i := 8) (v := ?v7) rfl (by kernel_rfl) (by kernel_rfl) (by kernel_rfl) (fun _ _ _ h => h) (Or.inl ⟨by rfl, ?hy7⟩) (by assumption) ?rest7
            case hy7 => (intro w0 hSw; (try dsimp only at hSw); go_simp; try with_reducible rfl)
            try simp only [Act.put, List.getElem_toArray, List.getElem_cons_zero, List.getElem_cons_succ, List.setIfInBounds_toArray, List.set_cons_zero, List.set_cons_succ]
            refine wpAnyH_take (i := 9) (v := ?v8) rfl (by kernel_rfl) (by kernel_rfl) (by kernel_rfl) (fun _ _ _ h => h) (Or.inl ⟨by rfl, ?hy8⟩) (by assumption) ?rest8
            case hy8 => (intro w0 hSw; (try dsimp only at hSw); go_simp; try with_reducible rfl)
            try simp only [Act.put, List.getElem_toArray, List.getElem_cons_zero, List.getElem_cons_succ, List.setIfInBounds_toArray, List.set_cons_zero, List.set_cons_succ]
            refine wpAnyH_ready (rs := [5]) (by kernel_rfl) (by simp) ?_
            refine AllReadyH.cons rfl (fun K hK => ?_) AllReadyH.nil
            go_simp
            go_at_call 11
            refine (putW HLN.out.2.2 HLN.out.2.1 HPUT.out H1.out HLN.out.1).mono ?_
            rintro e w3 ⟨rfl, h3, hs3⟩
            have hbx3 : w3.heap[Wr.heap.size]? = some (.cells #[.int .u8 (kd : Nat), .string t, .bool sy, .int .i64 c] 38 (0, 0)) := (hs3 _ (.inl rfl)).trans HBX.out
            obtain ⟨c0, c1, -, -⟩ := box4 (r := ⟨kd, t, sy, c⟩) hbx3
            have hh := And.intro c0 c1
            have HROW3' := Lib.hid (HROW.out.frame (w' := w3) fun g hg => (hs3 g (.inr hg)).trans (heap_alloc_old Wr _ (HROW.out.lt hg)))
            have H3' := Lib.hid h3
            have HBOX3' := Lib.hid hbx3
            clear h3 hs3 hbx3 c0 c1
            refine hK.out _ _ ?_ (fun hHeld => ?_)
            · exact hh
            clear hK K
            try simp only [Act.put, List.getElem_toArray, List.getElem_cons_zero, List.getElem_cons_succ, List.setIfInBounds_toArray, List.set_cons_zero, List.set_cons_succ]
            refine wpAnyH_take (i := 6) (v := ?v9) rfl (by kernel_rfl) (by kernel_rfl) (by kernel_rfl) (fun _ _ _ h => h) (Or.inl ⟨by rfl, ?hy9⟩) (by assumption) ?rest9
            case hy9 => (intro w0 hSw; (try dsimp only at hSw); go_simp; try with_reducible rfl)
            try simp only [Act.put, List.getElem_toArray, List.getElem_cons_zero, List.getElem_cons_succ, List.setIfInBounds_toArray, List.set_cons_zero, List.set_cons_succ]
            refine wpAnyH_done (by kernel_rfl) ?_ _
            change wpList _ _ _ _ _ _
            clear hHeld hh
            have H3 := Lib.hid H3'.out
            have HROW3 := Lib.hid HROW3'.out
            have HBOX3 := Lib.hid HBOX3'.out
            have c0 := (box4 (r := ⟨kd, t, sy, c⟩) HBOX3.out).1
            dsimp only at c0
            obtain ⟨z, hz⟩ : ∃ z, wrap64 ((n3 : Int) - c) = z := ⟨_, rfl⟩
            obtain ⟨E4, x4, y4, hcut⟩ : ∃ E4 x4 y4, cutL x3 y3 z = (E4, x4, y4) := ⟨_, _, _, rfl⟩
            have HCUT := Lib.hid hcut
            have c3 := (box4 (r := ⟨kd, t, sy, c⟩) HBOX3.out).2.2.2
            dsimp only at c3
            rcases cutL_good HG3.out H3.out.ok hcut with ⟨hbad, rfl, rfl, rfl⟩ | ⟨m, rfl, hm, rfl, hrec, hg4, hlo4⟩
            · rw [HL3.out, HN3.out] at hbad
              by_cases hz0 : z < 0
              · obtain ⟨L4, rfl⟩ : ∃ L4, L4 = L3 := ⟨_, rfl⟩
                obtain ⟨m4, rfl⟩ : ∃ m4, m4 = n3 := ⟨_, rfl⟩
                obtain ⟨a6, rfl⟩ : ∃ a6, a6 = a3 := ⟨_, rfl⟩
                obtain ⟨cap6, rfl⟩ : ∃ cap6, cap6 = cap3 := ⟨_, rfl⟩
                have HM4 := Lib.hid HN3.out
                have HOWN6 := Lib.hid HOWN3.out
                have HL4 := Lib.hid HL3.out
                have HG4 := Lib.hid HG3.out
                clear hcut hbad
                go_wp2_with fail
                refine (cutW HCUT.out H3.out HO3.out).mono ?_
                rintro e w4 ⟨rfl, h4, hs4⟩
                have H4 := Lib.hid h4
                have HR6 := Lib.hid (HROW3.out.frame (w' := w4) fun g hg => hs4 g (.inr hg))
                clear h4 hs4 c3
                go_wp2_with fail
                refine (textsW (L := L4) HL4.out H4.out).mono ?_
                rintro e w5 ⟨v5, rfl, ho5, hb5⟩
                obtain ⟨a5, cap5, rfl⟩ := (Row.own ho5).len
                have HR5 := Lib.hid (Row.own ho5)
                have HB5 := Lib.hid hb5
                have H5 := Lib.hid (H4.out.on hb5)
                clear ho5 hb5
                rw [HM4.out] at HR5
                obtain ⟨s5, hs5⟩ : ∃ s5, y4.sure = s5 := ⟨_, rfl⟩
                have HS5 := Lib.hid hs5; clear hs5
                have hsm : (s5 : Int) ≤ (m4 : Int) := by have h1 := HS5.out; have h2 := H5.out.ok.sure; have h3 := HM4.out; have h4 := HL4.out; rw [← h4] at h3; omega
                have HDEC := Lib.hid (show decide (m4 < s5) = false by simp; omega)
                have HLM := Lib.hid (show y4.recs.length = m4 by rw [HL4.out]; exact HM4.out)
                rw [HM4.out]
                go_wp2_with fail
                refine (sureW HS5.out H5.out).mono ?_
                rintro e w' ⟨rfl, rfl⟩
                go_wp2_with fail
                refine (lenW HLM.out H5.out).mono ?_
                rintro e w' ⟨rfl, rfl⟩
                go_wp2_with fail
                rw [HDEC.out]
                go_loopw [111] (fun i wr => ∃ j : Nat, j ≤ m4 ∧ i = .int .i64 j ∧ Below w5.heap.size w5 wr) (fun i _ => m4 - (intOf i).toNat)
                case atStart => exact ⟨0, Nat.zero_le _, rfl, Below.refl _ _⟩
                case round =>
                  obtain ⟨j, hj, rfl, hbi⟩ := hrel
                  by_cases hjl : j < m4
                  · obtain ⟨⟨⟨kr, pr⟩, hkpr⟩, hr⟩ : ∃ r, L4[j]? = some r := ⟨_, List.getElem?_eq_getElem (by have := HM4.out; omega)⟩
                    have hR6 := (HR6.out.below (HB5.out)).below hbi
                    have hR5 := HR5.out.below hbi
                    obtain ⟨g5, c5, e5⟩ : ∃ g5 c5, Value.slice a5 m4 cap5 = .slice (some ⟨g5, 0, none⟩) m4 c5 := by
                      rcases hR5.form with ⟨_, h0⟩ | ⟨g, c, he, _⟩
                      · omega
                      · exact ⟨g, c, he⟩
                    obtain ⟨g6, c6, e6⟩ : ∃ g6 c6, Value.slice a6 m4 cap6 = .slice (some ⟨g6, 0, none⟩) m4 c6 := by
                      rcases hR6.form with ⟨_, h0⟩ | ⟨g, c, he, _⟩
                      · omega
                      · exact ⟨g, c, he⟩
                    simp only [Value.slice.injEq, true_and] at e5 e6
                    obtain ⟨rfl, rfl⟩ := e5
                    obtain ⟨rfl, rfl⟩ := e6
                    have hS := And.intro (Row.range4 hR5 hr) (Row.range4 hR6 hr)
                    dsimp only [recRow] at hS
                    have HSS := Lib.hid hS
                    have HBI := Lib.hid hbi
                    have hj0 : (0 : Int) ≤ (j : Int) := by omega
                    have hm4b : (m4 : Int) ≤ 1000 := by have h1 := HG4.out.len; rw [HLM.out] at h1; have h2 := HK.out; omega
                    have hj1 : (j : Int) < (m4 : Int) := by omega
                    have hneq := fun w0 => neq_rec (kr : Nat) pr w0
                    have hgd := guard38
                    clear hR5 hR6 hr hS hbi hj hjl
                    go_wp2_with fail
                    refine wp_region_peel2 (by kernel_rfl) (by simp only [List.dropLast_cons_cons, List.dropLast_singleton]; exact rfl) rfl (by kernel_rfl) ?_
                    refine wpAny_of_held (S := fun w' => w'.rangeAt g5 (j * 4) [.int .u8 (kr : Nat), .string pr, .bool false, .int .i64 0] ∧ w'.rangeAt g6 (j * 4) [.int .u8 (kr : Nat), .string pr, .bool false, .int .i64 0]) _ _ _ _ ?_
                    have hHeld : wr.drew.rangeAt g5 (j * 4) [.int .u8 (kr : Nat), .string pr, .bool false, .int .i64 0] ∧ wr.drew.rangeAt g6 (j * 4) [.int .u8 (kr : Nat), .string pr, .bool false, .int .i64 0] := HSS.out
                    refine wpAnyH_take (i := 0) (v := ?v19) rfl (by kernel_rfl) (by kernel_rfl) (by kernel_rfl) (fun _ _ _ h => h) (Or.inl ⟨by rfl, ?hy19⟩) (by assumption) ?rest19
                    case hy19 => (intro w0 hSw; (try dsimp only at hSw); go_simp; try with_reducible rfl)
                    try simp only [Act.put, List.getElem_toArray, List.getElem_cons_zero, List.getElem_cons_succ, List.setIfInBounds_toArray, List.set_cons_zero, List.set_cons_succ]
                    refine wpAnyH_take (i := 1) (v := ?v20) rfl (by kernel_rfl) (by kernel_rfl) (by kernel_rfl) (fun _ _ _ h => h) (Or.inl ⟨by rfl, ?hy20⟩) (by assumption) ?rest20
                    case hy20 => (intro w0 hSw; (try dsimp only at hSw); go_simp; try with_reducible rfl)
                    try simp only [Act.put, List.getElem_toArray, List.getElem_cons_zero, List.getElem_cons_succ, List.setIfInBounds_toArray, List.set_cons_zero, List.set_cons_succ]
                    refine wpAnyH_take (i := 2) (v := ?v21) rfl (by kernel_rfl) (by kernel_rfl) (by kernel_rfl) (fun _ _ _ h => h) (Or.inl ⟨by rfl, ?hy21⟩) (by assumption) ?rest21
                    case hy21 => (intro w0 hSw; (try dsimp only at hSw); go_simp; try with_reducible rfl)
                    try simp only [Act.put, List.getElem_toArray, List.getElem_cons_zero, List.getElem_cons_succ, List.setIfInBounds_toArray, List.set_cons_zero, List.set_cons_succ]
                    refine wpAnyH_take (i := 3) (v := .agg #[.int .u8 (kr : Nat), .string pr, .bool false, .int .i64 0]) rfl (by kernel_rfl) (by kernel_rfl) (by kernel_rfl) (fun _ _ _ h => h) (yieldsIf_load_mid (by rfl) 38 (.tmp 116) rfl g5 (j * 4) (by simp [Act.eval]) [.int .u8 (kr : Nat), .string pr, .bool false, .int .i64 0] _ (fun W hW => hW.1) Try.underlying38 rfl info38r) (by assumption) ?_
                    try simp only [Act.put, List.getElem_toArray, List.getElem_cons_zero, List.getElem_cons_succ, List.setIfInBounds_toArray, List.set_cons_zero, List.set_cons_succ]
                    refine wpAnyH_take (i := 4) (v := ?v23) rfl (by kernel_rfl) (by kernel_rfl) (by kernel_rfl) (fun _ _ _ h => h) (Or.inl ⟨by rfl, ?hy23⟩) (by assumption) ?rest23
                    case hy23 => (intro w0 hSw; (try dsimp only at hSw); go_simp; try with_reducible rfl)
                    try simp only [Act.put, List.getElem_toArray, List.getElem_cons_zero, List.getElem_cons_succ, List.setIfInBounds_toArray, List.set_cons_zero, List.set_cons_succ]
                    refine wpAnyH_take (i := 5) (v := ?v24) rfl (by kernel_rfl) (by kernel_rfl) (by kernel_rfl) (fun _ _ _ h => h) (Or.inl ⟨by rfl, ?hy24⟩) (by assumption) ?rest24
                    case hy24 => (intro w0 hSw; (try dsimp only at hSw); go_simp; try with_reducible rfl)
                    try simp only [Act.put, List.getElem_toArray, List.getElem_cons_zero, List.getElem_cons_succ, List.setIfInBounds_toArray, List.set_cons_zero, List.set_cons_succ]
                    refine wpAnyH_take (i := 6) (v := ?v25) rfl (by kernel_rfl) (by kernel_rfl) (by kernel_rfl) (fun _ _ _ h => h) (Or.inl ⟨by rfl, ?hy25⟩) (by assumption) ?rest25
                    case hy25 => (intro w0 hSw; (try dsimp only at hSw); go_simp; try with_reducible rfl)
                    try simp only [Act.put, List.getElem_toArray, List.getElem_cons_zero, List.getElem_cons_succ, List.setIfInBounds_toArray, List.set_cons_zero, List.set_cons_succ]
                    refine wpAnyH_take (i := 7) (v := .agg #[.int .u8 (kr : Nat), .string pr, .bool false, .int .i64 0]) rfl (by kernel_rfl) (by kernel_rfl) (by kernel_rfl) (fun _ _ _ h => h) (yieldsIf_load_mid (by rfl) 38 (.tmp 120) rfl g6 (j * 4) (by simp [Act.eval]) [.int .u8 (kr : Nat), .string pr, .bool false, .int .i64 0] _ (fun W hW => hW.2) Try.underlying38 rfl info38r) (by assumption) ?_
                    try simp only [Act.put, List.getElem_toArray, List.getElem_cons_zero, List.getElem_cons_succ, List.setIfInBounds_toArray, List.set_cons_zero, List.set_cons_succ]
                    refine wpAnyH_done (by kernel_rfl) ?_ _
                    change wpList _ _ _ _ _ _
                    clear hHeld
                    go_wp2_with fail
                    go_roundw
                    case rel => exact ⟨j + 1, by omega, by go_num, below_dr' HBI.out⟩
                    case measure => simp [intOf]; omega
                  · have hj1 : (m4 : Int) ≤ (j : Int) := by omega
                    have HBI := Lib.hid hbi
                    clear hbi
                    go_wp2_with fail
                    go_roundw
                    case rel => exact row_next (k := k + 1) (x := x4) (y := y4) (bx := Wr.heap.size) HK.out (by go_num) H4.out (by rw [HL4.out, HM4.out]; exact HR6.out) HOWN6.out HG4.out (HB5.out.trans (HBI.out.mono HB5.out.size))
                    case measure => simp [intOf]; omega
              · have hz1 : (n3 : Int) < z := by omega
                have hz2 : (0 : Int) ≤ z := by omega
                clear hz0
                obtain ⟨L4, rfl⟩ : ∃ L4, L4 = L3 := ⟨_, rfl⟩
                obtain ⟨m4, rfl⟩ : ∃ m4, m4 = n3 := ⟨_, rfl⟩
                obtain ⟨a6, rfl⟩ : ∃ a6, a6 = a3 := ⟨_, rfl⟩
                obtain ⟨cap6, rfl⟩ : ∃ cap6, cap6 = cap3 := ⟨_, rfl⟩
                have HM4 := Lib.hid HN3.out
                have HOWN6 := Lib.hid HOWN3.out
                have HL4 := Lib.hid HL3.out
                have HG4 := Lib.hid HG3.out
                clear hcut hbad
                go_wp2_with fail
                refine (cutW HCUT.out H3.out HO3.out).mono ?_
                rintro e w4 ⟨rfl, h4, hs4⟩
                have H4 := Lib.hid h4
                have HR6 := Lib.hid (HROW3.out.frame (w' := w4) fun g hg => hs4 g (.inr hg))
                clear h4 hs4 c3
                go_wp2_with fail
                refine (textsW (L := L4) HL4.out H4.out).mono ?_
                rintro e w5 ⟨v5, rfl, ho5, hb5⟩
                obtain ⟨a5, cap5, rfl⟩ := (Row.own ho5).len
                have HR5 := Lib.hid (Row.own ho5)
                have HB5 := Lib.hid hb5
                have H5 := Lib.hid (H4.out.on hb5)
                clear ho5 hb5
                rw [HM4.out] at HR5
                obtain ⟨s5, hs5⟩ : ∃ s5, y4.sure = s5 := ⟨_, rfl⟩
                have HS5 := Lib.hid hs5; clear hs5
                have hsm : (s5 : Int) ≤ (m4 : Int) := by have h1 := HS5.out; have h2 := H5.out.ok.sure; have h3 := HM4.out; have h4 := HL4.out; rw [← h4] at h3; omega
                have HDEC := Lib.hid (show decide (m4 < s5) = false by simp; omega)
                have HLM := Lib.hid (show y4.recs.length = m4 by rw [HL4.out]; exact HM4.out)
                rw [HM4.out]
                go_wp2_with fail
                refine (sureW HS5.out H5.out).mono ?_
                rintro e w' ⟨rfl, rfl⟩
                go_wp2_with fail
                refine (lenW HLM.out H5.out).mono ?_
                rintro e w' ⟨rfl, rfl⟩
                go_wp2_with fail
                rw [HDEC.out]
                go_loopw [111] (fun i wr => ∃ j : Nat, j ≤ m4 ∧ i = .int .i64 j ∧ Below w5.heap.size w5 wr) (fun i _ => m4 - (intOf i).toNat)
                case atStart => exact ⟨0, Nat.zero_le _, rfl, Below.refl _ _⟩
                case round =>
                  obtain ⟨j, hj, rfl, hbi⟩ := hrel
                  by_cases hjl : j < m4
                  · obtain ⟨⟨⟨kr, pr⟩, hkpr⟩, hr⟩ : ∃ r, L4[j]? = some r := ⟨_, List.getElem?_eq_getElem (by have := HM4.out; omega)⟩
                    have hR6 := (HR6.out.below (HB5.out)).below hbi
                    have hR5 := HR5.out.below hbi
                    obtain ⟨g5, c5, e5⟩ : ∃ g5 c5, Value.slice a5 m4 cap5 = .slice (some ⟨g5, 0, none⟩) m4 c5 := by
                      rcases hR5.form with ⟨_, h0⟩ | ⟨g, c, he, _⟩
                      · omega
                      · exact ⟨g, c, he⟩
                    obtain ⟨g6, c6, e6⟩ : ∃ g6 c6, Value.slice a6 m4 cap6 = .slice (some ⟨g6, 0, none⟩) m4 c6 := by
                      rcases hR6.form with ⟨_, h0⟩ | ⟨g, c, he, _⟩
                      · omega
                      · exact ⟨g, c, he⟩
                    simp only [Value.slice.injEq, true_and] at e5 e6
                    obtain ⟨rfl, rfl⟩ := e5
                    obtain ⟨rfl, rfl⟩ := e6
                    have hS := And.intro (Row.range4 hR5 hr) (Row.range4 hR6 hr)
                    dsimp only [recRow] at hS
                    have HSS := Lib.hid hS
                    have HBI := Lib.hid hbi
                    have hj0 : (0 : Int) ≤ (j : Int) := by omega
                    have hm4b : (m4 : Int) ≤ 1000 := by have h1 := HG4.out.len; rw [HLM.out] at h1; have h2 := HK.out; omega
                    have hj1 : (j : Int) < (m4 : Int) := by omega
                    have hneq := fun w0 => neq_rec (kr : Nat) pr w0
                    have hgd := guard38
                    clear hR5 hR6 hr hS hbi hj hjl
                    go_wp2_with fail
                    refine wp_region_peel2 (by kernel_rfl) (by simp only [List.dropLast_cons_cons, List.dropLast_singleton]; exact rfl) rfl (by kernel_rfl) ?_
                    refine wpAny_of_held (S := fun w' => w'.rangeAt g5 (j * 4) [.int .u8 (kr : Nat), .string pr, .bool false, .int .i64 0] ∧ w'.rangeAt g6 (j * 4) [.int .u8 (kr : Nat), .string pr, .bool false, .int .i64 0]) _ _ _ _ ?_
                    have hHeld : wr.drew.rangeAt g5 (j * 4) [.int .u8 (kr : Nat), .string pr, .bool false, .int .i64 0] ∧ wr.drew.rangeAt g6 (j * 4) [.int .u8 (kr : Nat), .string pr, .bool false, .int .i64 0] := HSS.out
                    refine wpAnyH_take (i := 0) (v := ?v27) rfl (by kernel_rfl) (by kernel_rfl) (by kernel_rfl) (fun _ _ _ h => h) (Or.inl ⟨by rfl, ?hy27⟩) (by assumption) ?rest27
                    case hy27 => (intro w0 hSw; (try dsimp only at hSw); go_simp; try with_reducible rfl)
                    try simp only [Act.put, List.getElem_toArray, List.getElem_cons_zero, List.getElem_cons_succ, List.setIfInBounds_toArray, List.set_cons_zero, List.set_cons_succ]
                    refine wpAnyH_take (i := 1) (v := ?v28) rfl (by kernel_rfl) (by kernel_rfl) (by kernel_rfl) (fun _ _ _ h => h) (Or.inl ⟨by rfl, ?hy28⟩) (by assumption) ?rest28
                    case hy28 => (intro w0 hSw; (try dsimp only at hSw); go_simp; try with_reducible rfl)
                    try simp only [Act.put, List.getElem_toArray, List.getElem_cons_zero, List.getElem_cons_succ, List.setIfInBounds_toArray, List.set_cons_zero, List.set_cons_succ]
                    refine wpAnyH_take (i := 2) (v := ?v29) rfl (by kernel_rfl) (by kernel_rfl) (by kernel_rfl) (fun _ _ _ h => h) (Or.inl ⟨by rfl, ?hy29⟩) (by assumption) ?rest29
                    case hy29 => (intro w0 hSw; (try dsimp only at hSw); go_simp; try with_reducible rfl)
                    try simp only [Act.put, List.getElem_toArray, List.getElem_cons_zero, List.getElem_cons_succ, List.setIfInBounds_toArray, List.set_cons_zero, List.set_cons_succ]
                    refine wpAnyH_take (i := 3) (v := .agg #[.int .u8 (kr : Nat), .string pr, .bool false, .int .i64 0]) rfl (by kernel_rfl) (by kernel_rfl) (by kernel_rfl) (fun _ _ _ h => h) (yieldsIf_load_mid (by rfl) 38 (.tmp 116) rfl g5 (j * 4) (by simp [Act.eval]) [.int .u8 (kr : Nat), .string pr, .bool false, .int .i64 0] _ (fun W hW => hW.1) Try.underlying38 rfl info38r) (by assumption) ?_
                    try simp only [Act.put, List.getElem_toArray, List.getElem_cons_zero, List.getElem_cons_succ, List.setIfInBounds_toArray, List.set_cons_zero, List.set_cons_succ]
                    refine wpAnyH_take (i := 4) (v := ?v31) rfl (by kernel_rfl) (by kernel_rfl) (by kernel_rfl) (fun _ _ _ h => h) (Or.inl ⟨by rfl, ?hy31⟩) (by assumption) ?rest31
                    case hy31 => (intro w0 hSw; (try dsimp only at hSw); go_simp; try with_reducible rfl)
                    try simp only [Act.put, List.getElem_toArray, List.getElem_cons_zero, List.getElem_cons_succ, List.setIfInBounds_toArray, List.set_cons_zero, List.set_cons_succ]
                    refine wpAnyH_take (i := 5) (v := ?v32) rfl (by kernel_rfl) (by kernel_rfl) (by kernel_rfl) (fun _ _ _ h => h) (Or.inl ⟨by rfl, ?hy32⟩) (by assumption) ?rest32
                    case hy32 => (intro w0 hSw; (try dsimp only at hSw); go_simp; try with_reducible rfl)
                    try simp only [Act.put, List.getElem_toArray, List.getElem_cons_zero, List.getElem_cons_succ, List.setIfInBounds_toArray, List.set_cons_zero, List.set_cons_succ]
                    refine wpAnyH_take (i := 6) (v := ?v33) rfl (by kernel_rfl) (by kernel_rfl) (by kernel_rfl) (fun _ _ _ h => h) (Or.inl ⟨by rfl, ?hy33⟩) (by assumption) ?rest33
                    case hy33 => (intro w0 hSw; (try dsimp only at hSw); go_simp; try with_reducible rfl)
                    try simp only [Act.put, List.getElem_toArray, List.getElem_cons_zero, List.getElem_cons_succ, List.setIfInBounds_toArray, List.set_cons_zero, List.set_cons_succ]
                    refine wpAnyH_take (i := 7) (v := .agg #[.int .u8 (kr : Nat), .string pr, .bool false, .int .i64 0]) rfl (by kernel_rfl) (by kernel_rfl) (by kernel_rfl) (fun _ _ _ h => h) (yieldsIf_load_mid (by rfl) 38 (.tmp 120) rfl g6 (j * 4) (by simp [Act.eval]) [.int .u8 (kr : Nat), .string pr, .bool false, .int .i64 0] _ (fun W hW => hW.2) Try.underlying38 rfl info38r) (by assumption) ?_
                    try simp only [Act.put, List.getElem_toArray, List.getElem_cons_zero, List.getElem_cons_succ, List.setIfInBounds_toArray, List.set_cons_zero, List.set_cons_succ]
                    refine wpAnyH_done (by kernel_rfl) ?_ _
                    change wpList _ _ _ _ _ _
                    clear hHeld
                    go_wp2_with fail
                    go_roundw
                    case rel => exact ⟨j + 1, by omega, by go_num, below_dr' HBI.out⟩
                    case measure => simp [intOf]; omega
                  · have hj1 : (m4 : Int) ≤ (j : Int) := by omega
                    have HBI := Lib.hid hbi
                    clear hbi
                    go_wp2_with fail
                    go_roundw
                    case rel => exact row_next (k := k + 1) (x := x4) (y := y4) (bx := Wr.heap.size) HK.out (by go_num) H4.out (by rw [HL4.out, HM4.out]; exact HR6.out) HOWN6.out HG4.out (HB5.out.trans (HBI.out.mono HB5.out.size))
                    case measure => simp [intOf]; omega
            · rw [HL3.out, HN3.out] at hm
              rw [HL3.out] at hrec
              have HG4 := Lib.hid hg4
              obtain ⟨L4, hL4⟩ : ∃ L4, L3.take m = L4 := ⟨_, rfl⟩
              have HL4 := Lib.hid (hrec.trans hL4)
              obtain ⟨m4, rfl⟩ : ∃ m4, m4 = m := ⟨_, rfl⟩
              have HM4 := Lib.hid (show L4.length = m4 by rw [← hL4, List.length_take, HN3.out]; omega)
              obtain ⟨a6, rfl⟩ : ∃ a6, a6 = a3 := ⟨_, rfl⟩
              have hsl := fun w' => slice_row HROW3.out hm w'
              have HRC := Lib.hid (row_cut HROW3.out hm)
              rw [hL4] at HRC
              have HOWN6 := Lib.hid (show ∀ g, (Value.slice a6 m4 m4).ownBlock = some g → w.heap.size ≤ g from fun g hg => HOWN3.out g (by rw [own_len a6 n3 cap3 m4 m4]; exact hg))
              have HO3' := HO3
              have hm1 : (m4 : Int) ≤ (n3 : Int) := by omega
              have hm0 : (0 : Int) ≤ (m4 : Int) := by omega
              clear hcut hrec hg4 hlo4 hL4
              go_wp2_with fail
              refine (cutW HCUT.out H3.out HO3.out).mono ?_
              rintro e w4 ⟨rfl, h4, hs4⟩
              have H4 := Lib.hid (show LogW w.heap.size w lp w.heap.size x4 y4 (fun g => g = Wr.heap.size ∨ (Value.slice a6 m4 m4).ownBlock = some g) w4 from drop_box h4 fun g hg => hg.imp id fun h => by rw [own_len a6 n3 cap3 m4 m4]; exact h)
              have HR6 := Lib.hid (HRC.out.frame (w' := w4) fun g hg => hs4 g (.inr (by rw [own_len a6 n3 cap3 m4 m4]; exact hg)))
              clear h4 hs4 c3
              go_wp2_with fail
              clear hsl
              refine (textsW (L := L4) HL4.out H4.out).mono ?_
              rintro e w5 ⟨v5, rfl, ho5, hb5⟩
              obtain ⟨a5, cap5, rfl⟩ := (Row.own ho5).len
              have HR5 := Lib.hid (Row.own ho5)
              have HB5 := Lib.hid hb5
              have H5 := Lib.hid (H4.out.on hb5)
              clear ho5 hb5
              rw [HM4.out] at HR5
              obtain ⟨s5, hs5⟩ : ∃ s5, y4.sure = s5 := ⟨_, rfl⟩
              have HS5 := Lib.hid hs5; clear hs5
              have hsm : (s5 : Int) ≤ (m4 : Int) := by have h1 := HS5.out; have h2 := H5.out.ok.sure; have h3 := HM4.out; have h4 := HL4.out; rw [← h4] at h3; omega
              have HDEC := Lib.hid (show decide (m4 < s5) = false by simp; omega)
              have HLM := Lib.hid (show y4.recs.length = m4 by rw [HL4.out]; exact HM4.out)
              rw [HM4.out]
              go_wp2_with fail
              refine (sureW HS5.out H5.out).mono ?_
              rintro e w' ⟨rfl, rfl⟩
              go_wp2_with fail
              refine (lenW HLM.out H5.out).mono ?_
              rintro e w' ⟨rfl, rfl⟩
              go_wp2_with fail
              rw [HDEC.out]
              go_loopw [111] (fun i wr => ∃ j : Nat, j ≤ m4 ∧ i = .int .i64 j ∧ Below w5.heap.size w5 wr) (fun i _ => m4 - (intOf i).toNat)
              case atStart => exact ⟨0, Nat.zero_le _, rfl, Below.refl _ _⟩
              case round =>
                obtain ⟨j, hj, rfl, hbi⟩ := hrel
                by_cases hjl : j < m4
                · obtain ⟨⟨⟨kr, pr⟩, hkpr⟩, hr⟩ : ∃ r, L4[j]? = some r := ⟨_, List.getElem?_eq_getElem (by have := HM4.out; omega)⟩
                  have hR6 := (HR6.out.below (HB5.out)).below hbi
                  have hR5 := HR5.out.below hbi
                  obtain ⟨g5, c5, e5⟩ : ∃ g5 c5, Value.slice a5 m4 cap5 = .slice (some ⟨g5, 0, none⟩) m4 c5 := by
                    rcases hR5.form with ⟨_, h0⟩ | ⟨g, c, he, _⟩
                    · omega
                    · exact ⟨g, c, he⟩
                  obtain ⟨g6, c6, e6⟩ : ∃ g6 c6, Value.slice a6 m4 m4 = .slice (some ⟨g6, 0, none⟩) m4 c6 := by
                    rcases hR6.form with ⟨_, h0⟩ | ⟨g, c, he, _⟩
                    · omega
                    · exact ⟨g, c, he⟩
                  simp only [Value.slice.injEq, true_and] at e5 e6
                  obtain ⟨rfl, rfl⟩ := e5
                  obtain ⟨rfl, rfl⟩ := e6
                  have hS := And.intro (Row.range4 hR5 hr) (Row.range4 hR6 hr)
                  dsimp only [recRow] at hS
                  have HSS := Lib.hid hS
                  have HBI := Lib.hid hbi
                  have hj0 : (0 : Int) ≤ (j : Int) := by omega
                  have hm4b : (m4 : Int) ≤ 1000 := by have h1 := HG4.out.len; rw [HLM.out] at h1; have h2 := HK.out; omega
                  have hj1 : (j : Int) < (m4 : Int) := by omega
                  have hneq := fun w0 => neq_rec (kr : Nat) pr w0
                  have hgd := guard38
                  clear hR5 hR6 hr hS hbi hj hjl
                  go_wp2_with fail
                  refine wp_region_peel2 (by kernel_rfl) (by simp only [List.dropLast_cons_cons, List.dropLast_singleton]; exact rfl) rfl (by kernel_rfl) ?_
                  refine wpAny_of_held (S := fun w' => w'.rangeAt g5 (j * 4) [.int .u8 (kr : Nat), .string pr, .bool false, .int .i64 0] ∧ w'.rangeAt g6 (j * 4) [.int .u8 (kr : Nat), .string pr, .bool false, .int .i64 0]) _ _ _ _ ?_
                  have hHeld : wr.drew.rangeAt g5 (j * 4) [.int .u8 (kr : Nat), .string pr, .bool false, .int .i64 0] ∧ wr.drew.rangeAt g6 (j * 4) [.int .u8 (kr : Nat), .string pr, .bool false, .int .i64 0] := HSS.out
                  refine wpAnyH_take (i := 0) (v := ?v35) rfl (by kernel_rfl) (by kernel_rfl) (by kernel_rfl) (fun _ _ _ h => h) (Or.inl ⟨by rfl, ?hy35⟩) (by assumption) ?rest35
                  case hy35 => (intro w0 hSw; (try dsimp only at hSw); go_simp; try with_reducible rfl)
                  try simp only [Act.put, List.getElem_toArray, List.getElem_cons_zero, List.getElem_cons_succ, List.setIfInBounds_toArray, List.set_cons_zero, List.set_cons_succ]
                  refine wpAnyH_take (i := 1) (v := ?v36) rfl (by kernel_rfl) (by kernel_rfl) (by kernel_rfl) (fun _ _ _ h => h) (Or.inl ⟨by rfl, ?hy36⟩) (by assumption) ?rest36
                  case hy36 => (intro w0 hSw; (try dsimp only at hSw); go_simp; try with_reducible rfl)
                  try simp only [Act.put, List.getElem_toArray, List.getElem_cons_zero, List.getElem_cons_succ, List.setIfInBounds_toArray, List.set_cons_zero, List.set_cons_succ]
                  refine wpAnyH_take (i := 2) (v := ?v37) rfl (by kernel_rfl) (by kernel_rfl) (by kernel_rfl) (fun _ _ _ h => h) (Or.inl ⟨by rfl, ?hy37⟩) (by assumption) ?rest37
                  case hy37 => (intro w0 hSw; (try dsimp only at hSw); go_simp; try with_reducible rfl)
                  try simp only [Act.put, List.getElem_toArray, List.getElem_cons_zero, List.getElem_cons_succ, List.setIfInBounds_toArray, List.set_cons_zero, List.set_cons_succ]
                  refine wpAnyH_take (i := 3) (v := .agg #[.int .u8 (kr : Nat), .string pr, .bool false, .int .i64 0]) rfl (by kernel_rfl) (by kernel_rfl) (by kernel_rfl) (fun _ _ _ h => h) (yieldsIf_load_mid (by rfl) 38 (.tmp 116) rfl g5 (j * 4) (by simp [Act.eval]) [.int .u8 (kr : Nat), .string pr, .bool false, .int .i64 0] _ (fun W hW => hW.1) Try.underlying38 rfl info38r) (by assumption) ?_
                  try simp only [Act.put, List.getElem_toArray, List.getElem_cons_zero, List.getElem_cons_succ, List.setIfInBounds_toArray, List.set_cons_zero, List.set_cons_succ]
                  refine wpAnyH_take (i := 4) (v := ?v39) rfl (by kernel_rfl) (by kernel_rfl) (by kernel_rfl) (fun _ _ _ h => h) (Or.inl ⟨by rfl, ?hy39⟩) (by assumption) ?rest39
                  case hy39 => (intro w0 hSw; (try dsimp only at hSw); go_simp; try with_reducible rfl)
                  try simp only [Act.put, List.getElem_toArray, List.getElem_cons_zero, List.getElem_cons_succ, List.setIfInBounds_toArray, List.set_cons_zero, List.set_cons_succ]
                  refine wpAnyH_take (i := 5) (v := ?v40) rfl (by kernel_rfl) (by kernel_rfl) (by kernel_rfl) (fun _ _ _ h => h) (Or.inl ⟨by rfl, ?hy40⟩) (by assumption) ?rest40
                  case hy40 => (intro w0 hSw; (try dsimp only at hSw); go_simp; try with_reducible rfl)
                  try simp only [Act.put, List.getElem_toArray, List.getElem_cons_zero, List.getElem_cons_succ, List.setIfInBounds_toArray, List.set_cons_zero, List.set_cons_succ]
                  refine wpAnyH_take (i := 6) (v := ?v41) rfl (by kernel_rfl) (by kernel_rfl) (by kernel_rfl) (fun _ _ _ h => h) (Or.inl ⟨by rfl, ?hy41⟩) (by assumption) ?rest41
                  case hy41 => (intro w0 hSw; (try dsimp only at hSw); go_simp; try with_reducible rfl)
                  try simp only [Act.put, List.getElem_toArray, List.getElem_cons_zero, List.getElem_cons_succ, List.setIfInBounds_toArray, List.set_cons_zero, List.set_cons_succ]
                  refine wpAnyH_take (i := 7) (v := .agg #[.int .u8 (kr : Nat), .string pr, .bool false, .int .i64 0]) rfl (by kernel_rfl) (by kernel_rfl) (by kernel_rfl) (fun _ _ _ h => h) (yieldsIf_load_mid (by rfl) 38 (.tmp 120) rfl g6 (j * 4) (by simp [Act.eval]) [.int .u8 (kr : Nat), .string pr, .bool false, .int .i64 0] _ (fun W hW => hW.2) Try.underlying38 rfl info38r) (by assumption) ?_
                  try simp only [Act.put, List.getElem_toArray, List.getElem_cons_zero, List.getElem_cons_succ, List.setIfInBounds_toArray, List.set_cons_zero, List.set_cons_succ]
                  refine wpAnyH_done (by kernel_rfl) ?_ _
                  change wpList _ _ _ _ _ _
                  clear hHeld
                  go_wp2_with fail
                  go_roundw
                  case rel => exact ⟨j + 1, by omega, by go_num, below_dr' HBI.out⟩
                  case measure => simp [intOf]; omega
                · have hj1 : (m4 : Int) ≤ (j : Int) := by omega
                  have HBI := Lib.hid hbi
                  clear hbi
                  go_wp2_with fail
                  go_roundw
                  case rel => exact row_next (k := k + 1) (x := x4) (y := y4) (bx := Wr.heap.size) HK.out (by go_num) H4.out (by rw [HL4.out, HM4.out]; exact HR6.out) HOWN6.out HG4.out (HB5.out.trans (HBI.out.mono HB5.out.size))
                  case measure => simp [intOf]; omega
          · have hk1 : (0 : Int) < (kd : Int) := by omega
            have hk2 : decide (0 < kd) = true := by simp; omega
            obtain ⟨hx, rfl, hrec, hg3, hlo3⟩ := putR_good HG.out HLG.out.ok (by omega) (by omega) hp1 (by omega) hput
            have HG3 := Lib.hid hg3
            have HO3 := Lib.hid (show x3.loose.length ≤ 1099511627776 by have := HG.out.loose; omega)
            rw [HL0.out] at hrec
            have HREC := Lib.hid hrec
            obtain ⟨L3, hL3⟩ : ∃ L3, L ++ [⟨(kd, t), hx⟩] = L3 := ⟨_, rfl⟩
            have HL3 := Lib.hid (hrec.trans hL3)
            obtain ⟨n3, hn3⟩ : ∃ n3, n + 1 = n3 := ⟨_, rfl⟩
            have HN3 := Lib.hid (show L3.length = n3 by rw [← hL3, List.length_append, HN0.out, ← hn3]; rfl)
            have HLL := Lib.hid hL3
            have HNN := Lib.hid hn3
            have hn100 : n ≤ 200 := by have := HG.out.len; rw [HL0.out, HN0.out] at this; omega
            clear hput hkd ht hp2 hp3 hne hrec hg3 hlo3 hL3 hn3 hlt hbl
            go_wp2_with (first | (refine wpList_load_mid rfl 38 (.tmp 36) rfl b (o + k * 4) rfl [.int .u8 (kd : Nat), .string t, .bool sy, .int .i64 c] _ HC.out Try.underlying38 rfl info38r ?_))
            refine wp_region_peel2 (by kernel_rfl) (by simp only [List.dropLast_cons_cons, List.dropLast_singleton]; exact rfl) rfl (by kernel_rfl) ?_
            refine wpAny_of_held (S := fun w' => w'.cell? ⟨Wr.heap.size, 0, none⟩ = some (.int .u8 (kd : Nat)) ∧ w'.cell? ⟨Wr.heap.size, 1, none⟩ = some (.string t)) _ _ _ _ ?_
            have hHeld := HC1.out
            refine wpAnyH_take (i := 0) (v := ?v10) rfl (by kernel_rfl) (by kernel_rfl) (by kernel_rfl) (fun _ _ _ h => h) (Or.inl ⟨by rfl, ?hy10⟩) (by assumption) ?rest10
            case hy10 => (intro w0 hSw; (try dsimp only at hSw); go_simp; try with_reducible rfl)
            try simp only [Act.put, List.getElem_toArray, List.getElem_cons_zero, List.getElem_cons_succ, List.setIfInBounds_toArray, List.set_cons_zero, List.set_cons_succ]
            refine wpAnyH_take (i := 1) (v := ?v11) rfl (by kernel_rfl) (by kernel_rfl) (by kernel_rfl) (fun _ _ _ h => h) (Or.inl ⟨by rfl, ?hy11⟩) (by assumption) ?rest11
            case hy11 => (intro w0 hSw; (try dsimp only at hSw); go_simp; try with_reducible rfl)
            try simp only [Act.put, List.getElem_toArray, List.getElem_cons_zero, List.getElem_cons_succ, List.setIfInBounds_toArray, List.set_cons_zero, List.set_cons_succ]
            refine wpAnyH_take (i := 2) (v := ?v12) rfl (by kernel_rfl) (by kernel_rfl) (by kernel_rfl) (fun _ _ _ h => h) (Or.inl ⟨by rfl, ?hy12⟩) (by assumption) ?rest12
            case hy12 => (intro w0 hSw; (try dsimp only at hSw); go_simp; try with_reducible rfl)
            try simp only [Act.put, List.getElem_toArray, List.getElem_cons_zero, List.getElem_cons_succ, List.setIfInBounds_toArray, List.set_cons_zero, List.set_cons_succ]
            refine wpAnyH_take (i := 3) (v := ?v13) rfl (by kernel_rfl) (by kernel_rfl) (by kernel_rfl) (fun _ _ _ h => h) (Or.inl ⟨by rfl, ?hy13⟩) (by assumption) ?rest13
            case hy13 => (intro w0 hSw; (try dsimp only at hSw); go_simp; try with_reducible rfl)
            try simp only [Act.put, List.getElem_toArray, List.getElem_cons_zero, List.getElem_cons_succ, List.setIfInBounds_toArray, List.set_cons_zero, List.set_cons_succ]
            refine wpAnyH_take (i := 4) (v := ?v14) rfl (by kernel_rfl) (by kernel_rfl) (by kernel_rfl) (fun _ _ _ h => h) (Or.inl ⟨by rfl, ?hy14⟩) (by assumption) ?rest14
            case hy14 => (intro w0 hSw; (try dsimp only at hSw); go_simp; try with_reducible rfl)
            try simp only [Act.put, List.getElem_toArray, List.getElem_cons_zero, List.getElem_cons_succ, List.setIfInBounds_toArray, List.set_cons_zero, List.set_cons_succ]
            refine wpAnyH_take (i := 7) (v := ?v15) rfl (by kernel_rfl) (by kernel_rfl) (by kernel_rfl) (fun _ _ _ h => h) (Or.inl ⟨by rfl, ?hy15⟩) (by assumption) ?rest15
            case hy15 => (intro w0 hSw; (try dsimp only at hSw); go_simp; try with_reducible rfl)
            try simp only [Act.put, List.getElem_toArray, List.getElem_cons_zero, List.getElem_cons_succ, List.setIfInBounds_toArray, List.set_cons_zero, List.set_cons_succ]
            refine wpAnyH_take (i := 8) (v := ?v16) rfl (by kernel_rfl) (by kernel_rfl) (by kernel_rfl) (fun _ _ _ h => h) (Or.inl ⟨by rfl, ?hy16⟩) (by assumption) ?rest16
            case hy16 => (intro w0 hSw; (try dsimp only at hSw); go_simp; try with_reducible rfl)
            try simp only [Act.put, List.getElem_toArray, List.getElem_cons_zero, List.getElem_cons_succ, List.setIfInBounds_toArray, List.set_cons_zero, List.set_cons_succ]
            refine wpAnyH_take (i := 9) (v := ?v17) rfl (by kernel_rfl) (by kernel_rfl) (by kernel_rfl) (fun _ _ _ h => h) (Or.inl ⟨by rfl, ?hy17⟩) (by assumption) ?rest17
            case hy17 => (intro w0 hSw; (try dsimp only at hSw); go_simp; try with_reducible rfl)
            try simp only [Act.put, List.getElem_toArray, List.getElem_cons_zero, List.getElem_cons_succ, List.setIfInBounds_toArray, List.set_cons_zero, List.set_cons_succ]
            refine wpAnyH_ready (rs := [5]) (by kernel_rfl) (by simp) ?_
            refine AllReadyH.cons rfl (fun K hK => ?_) AllReadyH.nil
            go_simp
            go_at_call 11
            refine (putW HLN.out.2.2 HLN.out.2.1 HPUT.out H1.out HLN.out.1).mono ?_
            rintro e w3 ⟨rfl, h3, hs3⟩
            have hbx3 : w3.heap[Wr.heap.size]? = some (.cells #[.int .u8 (kd : Nat), .string t, .bool sy, .int .i64 c] 38 (0, 0)) := (hs3 _ (.inl rfl)).trans HBX.out
            obtain ⟨c0, c1, -, -⟩ := box4 (r := ⟨kd, t, sy, c⟩) hbx3
            have hh := And.intro c0 c1
            have HROW3' := Lib.hid (HROW.out.frame (w' := w3) fun g hg => (hs3 g (.inr hg)).trans (heap_alloc_old Wr _ (HROW.out.lt hg)))
            have H3' := Lib.hid h3
            have HBOX3' := Lib.hid hbx3
            clear h3 hs3 hbx3 c0 c1
            refine hK.out _ _ ?_ (fun hHeld => ?_)
            · exact hh
            clear hK K
            try simp only [Act.put, List.getElem_toArray, List.getElem_cons_zero, List.getElem_cons_succ, List.setIfInBounds_toArray, List.set_cons_zero, List.set_cons_succ]
            refine wpAnyH_take (i := 6) (v := ?v18) rfl (by kernel_rfl) (by kernel_rfl) (by kernel_rfl) (fun _ _ _ h => h) (Or.inl ⟨by rfl, ?hy18⟩) (by assumption) ?rest18
            case hy18 => (intro w0 hSw; (try dsimp only at hSw); go_simp; try with_reducible rfl)
            try simp only [Act.put, List.getElem_toArray, List.getElem_cons_zero, List.getElem_cons_succ, List.setIfInBounds_toArray, List.set_cons_zero, List.set_cons_succ]
            refine wpAnyH_done (by kernel_rfl) ?_ _
            change wpList _ _ _ _ _ _
            clear hHeld hh
            have c0 := (box4 (r := ⟨kd, t, sy, c⟩) HBOX3'.out).1
            have c1 := (box4 (r := ⟨kd, t, sy, c⟩) HBOX3'.out).2.1
            dsimp only at c0 c1
            go_wp2_with (at_builtin; refine wpList_append_row _ rfl (.tmp 57) (.tmp 63) 36 rfl 38 i0 (.agg #[.int .u8 0, .string ⟨#[]⟩, .bool false, .int .i64 0]) 4 40 Try.underlying36 hi hz0' hz1' hz2' rfl (by decide) _ n (recRows L) rfl (Row.frame (w := w3) HROW3'.out fun g hg => heap_alloc_old w3 _ (HROW3'.out.lt hg)) ⟨_, 0, none⟩ 1 1 [.int .u8 (kd : Nat), .string t, .bool false, .int .i64 0] rfl rfl (World.news_of_block (cs := #[.int .u8 (kd : Nat), .string t, .bool false, .int .i64 0]) (t := 38) (fr := (0, 0)) (heap_alloc_new _ _)) (by simp [Value.oneCell']) (by decide) (by unfold maxLen; omega) (by omega) _ (World.size_alloc _ _) ?_)
            intro g cap7 w7 hrow7 hg7 hat7 hlt7
            rw [HNN.out] at hrow7 ⊢
            obtain ⟨h7, hB7, hne7, hbx7⟩ := row_pushed (n := n3) (cap := cap7) H3'.out HOWN.out HWB.out HNE.out HROW3'.out hg7 hat7 hlt7
            have H3 := Lib.hid h7
            have HROW3 := Lib.hid (show Row w7 38 4 (.slice (some ⟨g, 0, none⟩) n3 cap7) n3 (recRows L3) by rw [← HLL.out, recRows_snoc]; exact hrow7)
            have HOWN3 := Lib.hid (show ∀ g', (Value.slice (some ⟨g, 0, none⟩) n3 cap7).ownBlock = some g' → w.heap.size ≤ g' from fun g' hg' => by simp [Value.ownBlock] at hg'; omega)
            have HBOX3 := Lib.hid (hbx7.trans HBOX3'.out)
            clear hrow7 hg7 hat7 hlt7 h7 hB7 hne7 hbx7 c0 c1
            obtain ⟨a8, ha8⟩ : ∃ a8, some (⟨g, 0, none⟩ : Addr) = a8 := ⟨_, rfl⟩
            rw [ha8] at H3 HROW3 HOWN3 ⊢
            clear ha8
            obtain ⟨z, hz⟩ : ∃ z, wrap64 ((n3 : Int) - c) = z := ⟨_, rfl⟩
            obtain ⟨E4, x4, y4, hcut⟩ : ∃ E4 x4 y4, cutL x3 y3 z = (E4, x4, y4) := ⟨_, _, _, rfl⟩
            have HCUT := Lib.hid hcut
            have c3 := (box4 (r := ⟨kd, t, sy, c⟩) HBOX3.out).2.2.2
            dsimp only at c3
            rcases cutL_good HG3.out H3.out.ok hcut with ⟨hbad, rfl, rfl, rfl⟩ | ⟨m, rfl, hm, rfl, hrec, hg4, hlo4⟩
            · rw [HL3.out, HN3.out] at hbad
              by_cases hz0 : z < 0
              · obtain ⟨L4, rfl⟩ : ∃ L4, L4 = L3 := ⟨_, rfl⟩
                obtain ⟨m4, rfl⟩ : ∃ m4, m4 = n3 := ⟨_, rfl⟩
                obtain ⟨a6, rfl⟩ : ∃ a6, a6 = a8 := ⟨_, rfl⟩
                obtain ⟨cap6, rfl⟩ : ∃ cap6, cap6 = cap7 := ⟨_, rfl⟩
                have HM4 := Lib.hid HN3.out
                have HOWN6 := Lib.hid HOWN3.out
                have HL4 := Lib.hid HL3.out
                have HG4 := Lib.hid HG3.out
                clear hcut hbad
                go_wp2_with fail
                refine (cutW HCUT.out H3.out HO3.out).mono ?_
                rintro e w4 ⟨rfl, h4, hs4⟩
                have H4 := Lib.hid h4
                have HR6 := Lib.hid (HROW3.out.frame (w' := w4) fun g hg => hs4 g (.inr hg))
                clear h4 hs4 c3
                go_wp2_with fail
                refine (textsW (L := L4) HL4.out H4.out).mono ?_
                rintro e w5 ⟨v5, rfl, ho5, hb5⟩
                obtain ⟨a5, cap5, rfl⟩ := (Row.own ho5).len
                have HR5 := Lib.hid (Row.own ho5)
                have HB5 := Lib.hid hb5
                have H5 := Lib.hid (H4.out.on hb5)
                clear ho5 hb5
                rw [HM4.out] at HR5
                obtain ⟨s5, hs5⟩ : ∃ s5, y4.sure = s5 := ⟨_, rfl⟩
                have HS5 := Lib.hid hs5; clear hs5
                have hsm : (s5 : Int) ≤ (m4 : Int) := by have h1 := HS5.out; have h2 := H5.out.ok.sure; have h3 := HM4.out; have h4 := HL4.out; rw [← h4] at h3; omega
                have HDEC := Lib.hid (show decide (m4 < s5) = false by simp; omega)
                have HLM := Lib.hid (show y4.recs.length = m4 by rw [HL4.out]; exact HM4.out)
                rw [HM4.out]
                go_wp2_with fail
                refine (sureW HS5.out H5.out).mono ?_
                rintro e w' ⟨rfl, rfl⟩
                go_wp2_with fail
                refine (lenW HLM.out H5.out).mono ?_
                rintro e w' ⟨rfl, rfl⟩
                go_wp2_with fail
                rw [HDEC.out]
                go_loopw [111] (fun i wr => ∃ j : Nat, j ≤ m4 ∧ i = .int .i64 j ∧ Below w5.heap.size w5 wr) (fun i _ => m4 - (intOf i).toNat)
                case atStart => exact ⟨0, Nat.zero_le _, rfl, Below.refl _ _⟩
                case round =>
                  obtain ⟨j, hj, rfl, hbi⟩ := hrel
                  by_cases hjl : j < m4
                  · obtain ⟨⟨⟨kr, pr⟩, hkpr⟩, hr⟩ : ∃ r, L4[j]? = some r := ⟨_, List.getElem?_eq_getElem (by have := HM4.out; omega)⟩
                    have hR6 := (HR6.out.below (HB5.out)).below hbi
                    have hR5 := HR5.out.below hbi
                    obtain ⟨g5, c5, e5⟩ : ∃ g5 c5, Value.slice a5 m4 cap5 = .slice (some ⟨g5, 0, none⟩) m4 c5 := by
                      rcases hR5.form with ⟨_, h0⟩ | ⟨g, c, he, _⟩
                      · omega
                      · exact ⟨g, c, he⟩
                    obtain ⟨g6, c6, e6⟩ : ∃ g6 c6, Value.slice a6 m4 cap6 = .slice (some ⟨g6, 0, none⟩) m4 c6 := by
                      rcases hR6.form with ⟨_, h0⟩ | ⟨g, c, he, _⟩
                      · omega
                      · exact ⟨g, c, he⟩
                    simp only [Value.slice.injEq, true_and] at e5 e6
                    obtain ⟨rfl, rfl⟩ := e5
                    obtain ⟨rfl, rfl⟩ := e6
                    have hS := And.intro (Row.range4 hR5 hr) (Row.range4 hR6 hr)
                    dsimp only [recRow] at hS
                    have HSS := Lib.hid hS
                    have HBI := Lib.hid hbi
                    have hj0 : (0 : Int) ≤ (j : Int) := by omega
                    have hm4b : (m4 : Int) ≤ 1000 := by have h1 := HG4.out.len; rw [HLM.out] at h1; have h2 := HK.out; omega
                    have hj1 : (j : Int) < (m4 : Int) := by omega
                    have hneq := fun w0 => neq_rec (kr : Nat) pr w0
                    have hgd := guard38
                    clear hR5 hR6 hr hS hbi hj hjl
                    go_wp2_with fail
                    refine wp_region_peel2 (by kernel_rfl) (by simp only [List.dropLast_cons_cons, List.dropLast_singleton]; exact rfl) rfl (by kernel_rfl) ?_
                    refine wpAny_of_held (S := fun w' => w'.rangeAt g5 (j * 4) [.int .u8 (kr : Nat), .string pr, .bool false, .int .i64 0] ∧ w'.rangeAt g6 (j * 4) [.int .u8 (kr : Nat), .string pr, .bool false, .int .i64 0]) _ _ _ _ ?_
                    have hHeld : wr.drew.rangeAt g5 (j * 4) [.int .u8 (kr : Nat), .string pr, .bool false, .int .i64 0] ∧ wr.drew.rangeAt g6 (j * 4) [.int .u8 (kr : Nat), .string pr, .bool false, .int .i64 0] := HSS.out
                    refine wpAnyH_take (i := 0) (v := ?v43) rfl (by kernel_rfl) (by kernel_rfl) (by kernel_rfl) (fun _ _ _ h => h) (Or.inl ⟨by rfl, ?hy43⟩) (by assumption) ?rest43
                    case hy43 => (intro w0 hSw; (try dsimp only at hSw); go_simp; try with_reducible rfl)
                    try simp only [Act.put, List.getElem_toArray, List.getElem_cons_zero, List.getElem_cons_succ, List.setIfInBounds_toArray, List.set_cons_zero, List.set_cons_succ]
                    refine wpAnyH_take (i := 1) (v := ?v44) rfl (by kernel_rfl) (by kernel_rfl) (by kernel_rfl) (fun _ _ _ h => h) (Or.inl ⟨by rfl, ?hy44⟩) (by assumption) ?rest44
                    case hy44 => (intro w0 hSw; (try dsimp only at hSw); go_simp; try with_reducible rfl)
                    try simp only [Act.put, List.getElem_toArray, List.getElem_cons_zero, List.getElem_cons_succ, List.setIfInBounds_toArray, List.set_cons_zero, List.set_cons_succ]
                    refine wpAnyH_take (i := 2) (v := ?v45) rfl (by kernel_rfl) (by kernel_rfl) (by kernel_rfl) (fun _ _ _ h => h) (Or.inl ⟨by rfl, ?hy45⟩) (by assumption) ?rest45
                    case hy45 => (intro w0 hSw; (try dsimp only at hSw); go_simp; try with_reducible rfl)
                    try simp only [Act.put, List.getElem_toArray, List.getElem_cons_zero, List.getElem_cons_succ, List.setIfInBounds_toArray, List.set_cons_zero, List.set_cons_succ]
                    refine wpAnyH_take (i := 3) (v := .agg #[.int .u8 (kr : Nat), .string pr, .bool false, .int .i64 0]) rfl (by kernel_rfl) (by kernel_rfl) (by kernel_rfl) (fun _ _ _ h => h) (yieldsIf_load_mid (by rfl) 38 (.tmp 116) rfl g5 (j * 4) (by simp [Act.eval]) [.int .u8 (kr : Nat), .string pr, .bool false, .int .i64 0] _ (fun W hW => hW.1) Try.underlying38 rfl info38r) (by assumption) ?_
                    try simp only [Act.put, List.getElem_toArray, List.getElem_cons_zero, List.getElem_cons_succ, List.setIfInBounds_toArray, List.set_cons_zero, List.set_cons_succ]
                    refine wpAnyH_take (i := 4) (v := ?v47) rfl (by kernel_rfl) (by kernel_rfl) (by kernel_rfl) (fun _ _ _ h => h) (Or.inl ⟨by rfl, ?hy47⟩) (by assumption) ?rest47
                    case hy47 => (intro w0 hSw; (try dsimp only at hSw); go_simp; try with_reducible rfl)
                    try simp only [Act.put, List.getElem_toArray, List.getElem_cons_zero, List.getElem_cons_succ, List.setIfInBounds_toArray, List.set_cons_zero, List.set_cons_succ]
                    refine wpAnyH_take (i := 5) (v := ?v48) rfl (by kernel_rfl) (by kernel_rfl) (by kernel_rfl) (fun _ _ _ h => h) (Or.inl ⟨by rfl, ?hy48⟩) (by assumption) ?rest48
                    case hy48 => (intro w0 hSw; (try dsimp only at hSw); go_simp; try with_reducible rfl)
                    try simp only [Act.put, List.getElem_toArray, List.getElem_cons_zero, List.getElem_cons_succ, List.setIfInBounds_toArray, List.set_cons_zero, List.set_cons_succ]
                    refine wpAnyH_take (i := 6) (v := ?v49) rfl (by kernel_rfl) (by kernel_rfl) (by kernel_rfl) (fun _ _ _ h => h) (Or.inl ⟨by rfl, ?hy49⟩) (by assumption) ?rest49
                    case hy49 => (intro w0 hSw; (try dsimp only at hSw); go_simp; try with_reducible rfl)
                    try simp only [Act.put, List.getElem_toArray, List.getElem_cons_zero, List.getElem_cons_succ, List.setIfInBounds_toArray, List.set_cons_zero, List.set_cons_succ]
                    refine wpAnyH_take (i := 7) (v := .agg #[.int .u8 (kr : Nat), .string pr, .bool false, .int .i64 0]) rfl (by kernel_rfl) (by kernel_rfl) (by kernel_rfl) (fun _ _ _ h => h) (yieldsIf_load_mid (by rfl) 38 (.tmp 120) rfl g6 (j * 4) (by simp [Act.eval]) [.int .u8 (kr : Nat), .string pr, .bool false, .int .i64 0] _ (fun W hW => hW.2) Try.underlying38 rfl info38r) (by assumption) ?_
                    try simp only [Act.put, List.getElem_toArray, List.getElem_cons_zero, List.getElem_cons_succ, List.setIfInBounds_toArray, List.set_cons_zero, List.set_cons_succ]
                    refine wpAnyH_done (by kernel_rfl) ?_ _
                    change wpList _ _ _ _ _ _
                    clear hHeld
                    go_wp2_with fail
                    go_roundw
                    case rel => exact ⟨j + 1, by omega, by go_num, below_dr' HBI.out⟩
                    case measure => simp [intOf]; omega
                  · have hj1 : (m4 : Int) ≤ (j : Int) := by omega
                    have HBI := Lib.hid hbi
                    clear hbi
                    go_wp2_with fail
                    go_roundw
                    case rel => exact row_next (k := k + 1) (x := x4) (y := y4) (bx := Wr.heap.size) HK.out (by go_num) H4.out (by rw [HL4.out, HM4.out]; exact HR6.out) HOWN6.out HG4.out (HB5.out.trans (HBI.out.mono HB5.out.size))
                    case measure => simp [intOf]; omega
              · have hz1 : (n3 : Int) < z := by omega
                have hz2 : (0 : Int) ≤ z := by omega
                clear hz0
                obtain ⟨L4, rfl⟩ : ∃ L4, L4 = L3 := ⟨_, rfl⟩
                obtain ⟨m4, rfl⟩ : ∃ m4, m4 = n3 := ⟨_, rfl⟩
                obtain ⟨a6, rfl⟩ : ∃ a6, a6 = a8 := ⟨_, rfl⟩
                obtain ⟨cap6, rfl⟩ : ∃ cap6, cap6 = cap7 := ⟨_, rfl⟩
                have HM4 := Lib.hid HN3.out
                have HOWN6 := Lib.hid HOWN3.out
                have HL4 := Lib.hid HL3.out
                have HG4 := Lib.hid HG3.out
                clear hcut hbad
                go_wp2_with fail
                refine (cutW HCUT.out H3.out HO3.out).mono ?_
                rintro e w4 ⟨rfl, h4, hs4⟩
                have H4 := Lib.hid h4
                have HR6 := Lib.hid (HROW3.out.frame (w' := w4) fun g hg => hs4 g (.inr hg))
                clear h4 hs4 c3
                go_wp2_with fail
                refine (textsW (L := L4) HL4.out H4.out).mono ?_
                rintro e w5 ⟨v5, rfl, ho5, hb5⟩
                obtain ⟨a5, cap5, rfl⟩ := (Row.own ho5).len
                have HR5 := Lib.hid (Row.own ho5)
                have HB5 := Lib.hid hb5
                have H5 := Lib.hid (H4.out.on hb5)
                clear ho5 hb5
                rw [HM4.out] at HR5
                obtain ⟨s5, hs5⟩ : ∃ s5, y4.sure = s5 := ⟨_, rfl⟩
                have HS5 := Lib.hid hs5; clear hs5
                have hsm : (s5 : Int) ≤ (m4 : Int) := by have h1 := HS5.out; have h2 := H5.out.ok.sure; have h3 := HM4.out; have h4 := HL4.out; rw [← h4] at h3; omega
                have HDEC := Lib.hid (show decide (m4 < s5) = false by simp; omega)
                have HLM := Lib.hid (show y4.recs.length = m4 by rw [HL4.out]; exact HM4.out)
                rw [HM4.out]
                go_wp2_with fail
                refine (sureW HS5.out H5.out).mono ?_
                rintro e w' ⟨rfl, rfl⟩
                go_wp2_with fail
                refine (lenW HLM.out H5.out).mono ?_
                rintro e w' ⟨rfl, rfl⟩
                go_wp2_with fail
                rw [HDEC.out]
                go_loopw [111] (fun i wr => ∃ j : Nat, j ≤ m4 ∧ i = .int .i64 j ∧ Below w5.heap.size w5 wr) (fun i _ => m4 - (intOf i).toNat)
                case atStart => exact ⟨0, Nat.zero_le _, rfl, Below.refl _ _⟩
                case round =>
                  obtain ⟨j, hj, rfl, hbi⟩ := hrel
                  by_cases hjl : j < m4
                  · obtain ⟨⟨⟨kr, pr⟩, hkpr⟩, hr⟩ : ∃ r, L4[j]? = some r := ⟨_, List.getElem?_eq_getElem (by have := HM4.out; omega)⟩
                    have hR6 := (HR6.out.below (HB5.out)).below hbi
                    have hR5 := HR5.out.below hbi
                    obtain ⟨g5, c5, e5⟩ : ∃ g5 c5, Value.slice a5 m4 cap5 = .slice (some ⟨g5, 0, none⟩) m4 c5 := by
                      rcases hR5.form with ⟨_, h0⟩ | ⟨g, c, he, _⟩
                      · omega
                      · exact ⟨g, c, he⟩
                    obtain ⟨g6, c6, e6⟩ : ∃ g6 c6, Value.slice a6 m4 cap6 = .slice (some ⟨g6, 0, none⟩) m4 c6 := by
                      rcases hR6.form with ⟨_, h0⟩ | ⟨g, c, he, _⟩
                      · omega
                      · exact ⟨g, c, he⟩
                    simp only [Value.slice.injEq, true_and] at e5 e6
                    obtain ⟨rfl, rfl⟩ := e5
                    obtain ⟨rfl, rfl⟩ := e6
                    have hS := And.intro (Row.range4 hR5 hr) (Row.range4 hR6 hr)
                    dsimp only [recRow] at hS
                    have HSS := Lib.hid hS
                    have HBI := Lib.hid hbi
                    have hj0 : (0 : Int) ≤ (j : Int) := by omega
                    have hm4b : (m4 : Int) ≤ 1000 := by have h1 := HG4.out.len; rw [HLM.out] at h1; have h2 := HK.out; omega
                    have hj1 : (j : Int) < (m4 : Int) := by omega
                    have hneq := fun w0 => neq_rec (kr : Nat) pr w0
                    have hgd := guard38
                    clear hR5 hR6 hr hS hbi hj hjl
                    go_wp2_with fail
                    refine wp_region_peel2 (by kernel_rfl) (by simp only [List.dropLast_cons_cons, List.dropLast_singleton]; exact rfl) rfl (by kernel_rfl) ?_
                    refine wpAny_of_held (S := fun w' => w'.rangeAt g5 (j * 4) [.int .u8 (kr : Nat), .string pr, .bool false, .int .i64 0] ∧ w'.rangeAt g6 (j * 4) [.int .u8 (kr : Nat), .string pr, .bool false, .int .i64 0]) _ _ _ _ ?_
                    have hHeld : wr.drew.rangeAt g5 (j * 4) [.int .u8 (kr : Nat), .string pr, .bool false, .int .i64 0] ∧ wr.drew.rangeAt g6 (j * 4) [.int .u8 (kr : Nat), .string pr, .bool false, .int .i64 0] := HSS.out
                    refine wpAnyH_take (i := 0) (v := ?v51) rfl (by kernel_rfl) (by kernel_rfl) (by kernel_rfl) (fun _ _ _ h => h) (Or.inl ⟨by rfl, ?hy51⟩) (by assumption) ?rest51
                    case hy51 => (intro w0 hSw; (try dsimp only at hSw); go_simp; try with_reducible rfl)
                    try simp only [Act.put, List.getElem_toArray, List.getElem_cons_zero, List.getElem_cons_succ, List.setIfInBounds_toArray, List.set_cons_zero, List.set_cons_succ]
                    refine wpAnyH_take (i := 1) (v := ?v52) rfl (by kernel_rfl) (by kernel_rfl) (by kernel_rfl) (fun _ _ _ h => h) (Or.inl ⟨by rfl, ?hy52⟩) (by assumption) ?rest52
                    case hy52 => (intro w0 hSw; (try dsimp only at hSw); go_simp; try with_reducible rfl)
                    try simp only [Act.put, List.getElem_toArray, List.getElem_cons_zero, List.getElem_cons_succ, List.setIfInBounds_toArray, List.set_cons_zero, List.set_cons_succ]
                    refine wpAnyH_take (i := 2) (v := ?v53) rfl (by kernel_rfl) (by kernel_rfl) (by kernel_rfl) (fun _ _ _ h => h) (Or.inl ⟨by rfl, ?hy53⟩) (by assumption) ?rest53
                    case hy53 => (intro w0 hSw; (try dsimp only at hSw); go_simp; try with_reducible rfl)
                    try simp only [Act.put, List.getElem_toArray, List.getElem_cons_zero, List.getElem_cons_succ, List.setIfInBounds_toArray, List.set_cons_zero, List.set_cons_succ]
                    refine wpAnyH_take (i := 3) (v := .agg #[.int .u8 (kr : Nat), .string pr, .bool false, .int .i64 0]) rfl (by kernel_rfl) (by kernel_rfl) (by kernel_rfl) (fun _ _ _ h => h) (yieldsIf_load_mid (by rfl) 38 (.tmp 116) rfl g5 (j * 4) (by simp [Act.eval]) [.int .u8 (kr : Nat), .string pr, .bool false, .int .i64 0] _ (fun W hW => hW.1) Try.underlying38 rfl info38r) (by assumption) ?_
                    try simp only [Act.put, List.getElem_toArray, List.getElem_cons_zero, List.getElem_cons_succ, List.setIfInBounds_toArray, List.set_cons_zero, List.set_cons_succ]
                    refine wpAnyH_take (i := 4) (v := ?v55) rfl (by kernel_rfl) (by kernel_rfl) (by kernel_rfl) (fun _ _ _ h => h) (Or.inl ⟨by rfl, ?hy55⟩) (by assumption) ?rest55
                    case hy55 => (intro w0 hSw; (try dsimp only at hSw); go_simp; try with_reducible rfl)
                    try simp only [Act.put, List.getElem_toArray, List.getElem_cons_zero, List.getElem_cons_succ, List.setIfInBounds_toArray, List.set_cons_zero, List.set_cons_succ]
                    refine wpAnyH_take (i := 5) (v := ?v56) rfl (by kernel_rfl) (by kernel_rfl) (by kernel_rfl) (fun _ _ _ h => h) (Or.inl ⟨by rfl, ?hy56⟩) (by assumption) ?rest56
                    case hy56 => (intro w0 hSw; (try dsimp only at hSw); go_simp; try with_reducible rfl)
                    try simp only [Act.put, List.getElem_toArray, List.getElem_cons_zero, List.getElem_cons_succ, List.setIfInBounds_toArray, List.set_cons_zero, List.set_cons_succ]
                    refine wpAnyH_take (i := 6) (v := ?v57) rfl (by kernel_rfl) (by kernel_rfl) (by kernel_rfl) (fun _ _ _ h => h) (Or.inl ⟨by rfl, ?hy57⟩) (by assumption) ?rest57
                    case hy57 => (intro w0 hSw; (try dsimp only at hSw); go_simp; try with_reducible rfl)
                    try simp only [Act.put, List.getElem_toArray, List.getElem_cons_zero, List.getElem_cons_succ, List.setIfInBounds_toArray, List.set_cons_zero, List.set_cons_succ]
                    refine wpAnyH_take (i := 7) (v := .agg #[.int .u8 (kr : Nat), .string pr, .bool false, .int .i64 0]) rfl (by kernel_rfl) (by kernel_rfl) (by kernel_rfl) (fun _ _ _ h => h) (yieldsIf_load_mid (by rfl) 38 (.tmp 120) rfl g6 (j * 4) (by simp [Act.eval]) [.int .u8 (kr : Nat), .string pr, .bool false, .int .i64 0] _ (fun W hW => hW.2) Try.underlying38 rfl info38r) (by assumption) ?_
                    try simp only [Act.put, List.getElem_toArray, List.getElem_cons_zero, List.getElem_cons_succ, List.setIfInBounds_toArray, List.set_cons_zero, List.set_cons_succ]
                    refine wpAnyH_done (by kernel_rfl) ?_ _
                    change wpList _ _ _ _ _ _
                    clear hHeld
                    go_wp2_with fail
                    go_roundw
                    case rel => exact ⟨j + 1, by omega, by go_num, below_dr' HBI.out⟩
                    case measure => simp [intOf]; omega
                  · have hj1 : (m4 : Int) ≤ (j : Int) := by omega
                    have HBI := Lib.hid hbi
                    clear hbi
                    go_wp2_with fail
                    go_roundw
                    case rel => exact row_next (k := k + 1) (x := x4) (y := y4) (bx := Wr.heap.size) HK.out (by go_num) H4.out (by rw [HL4.out, HM4.out]; exact HR6.out) HOWN6.out HG4.out (HB5.out.trans (HBI.out.mono HB5.out.size))
                    case measure => simp [intOf]; omega
            · rw [HL3.out, HN3.out] at hm
              rw [HL3.out] at hrec
              have HG4 := Lib.hid hg4
              obtain ⟨L4, hL4⟩ : ∃ L4, L3.take m = L4 := ⟨_, rfl⟩
              have HL4 := Lib.hid (hrec.trans hL4)
              obtain ⟨m4, rfl⟩ : ∃ m4, m4 = m := ⟨_, rfl⟩
              have HM4 := Lib.hid (show L4.length = m4 by rw [← hL4, List.length_take, HN3.out]; omega)
              obtain ⟨a6, rfl⟩ : ∃ a6, a6 = a8 := ⟨_, rfl⟩
              have hsl := fun w' => slice_row HROW3.out hm w'
              have HRC := Lib.hid (row_cut HROW3.out hm)
              rw [hL4] at HRC
              have HOWN6 := Lib.hid (show ∀ g, (Value.slice a6 m4 m4).ownBlock = some g → w.heap.size ≤ g from fun g hg => HOWN3.out g (by rw [own_len a6 n3 cap7 m4 m4]; exact hg))
              have HO3' := HO3
              have hm1 : (m4 : Int) ≤ (n3 : Int) := by omega
              have hm0 : (0 : Int) ≤ (m4 : Int) := by omega
              clear hcut hrec hg4 hlo4 hL4
              go_wp2_with fail
              refine (cutW HCUT.out H3.out HO3.out).mono ?_
              rintro e w4 ⟨rfl, h4, hs4⟩
              have H4 := Lib.hid (show LogW w.heap.size w lp w.heap.size x4 y4 (fun g => g = Wr.heap.size ∨ (Value.slice a6 m4 m4).ownBlock = some g) w4 from drop_box h4 fun g hg => hg.imp id fun h => by rw [own_len a6 n3 cap7 m4 m4]; exact h)
              have HR6 := Lib.hid (HRC.out.frame (w' := w4) fun g hg => hs4 g (.inr (by rw [own_len a6 n3 cap7 m4 m4]; exact hg)))
              clear h4 hs4 c3
              go_wp2_with fail
              clear hsl
              refine (textsW (L := L4) HL4.out H4.out).mono ?_
              rintro e w5 ⟨v5, rfl, ho5, hb5⟩
              obtain ⟨a5, cap5, rfl⟩ := (Row.own ho5).len
              have HR5 := Lib.hid (Row.own ho5)
              have HB5 := Lib.hid hb5
              have H5 := Lib.hid (H4.out.on hb5)
              clear ho5 hb5
              rw [HM4.out] at HR5
              obtain ⟨s5, hs5⟩ : ∃ s5, y4.sure = s5 := ⟨_, rfl⟩
              have HS5 := Lib.hid hs5; clear hs5
              have hsm : (s5 : Int) ≤ (m4 : Int) := by have h1 := HS5.out; have h2 := H5.out.ok.sure; have h3 := HM4.out; have h4 := HL4.out; rw [← h4] at h3; omega
              have HDEC := Lib.hid (show decide (m4 < s5) = false by simp; omega)
              have HLM := Lib.hid (show y4.recs.length = m4 by rw [HL4.out]; exact HM4.out)
              rw [HM4.out]
              go_wp2_with fail
              refine (sureW HS5.out H5.out).mono ?_
              rintro e w' ⟨rfl, rfl⟩
              go_wp2_with fail
              refine (lenW HLM.out H5.out).mono ?_
              rintro e w' ⟨rfl, rfl⟩
              go_wp2_with fail
              rw [HDEC.out]
              go_loopw [111] (fun i wr => ∃ j : Nat, j ≤ m4 ∧ i = .int .i64 j ∧ Below w5.heap.size w5 wr) (fun i _ => m4 - (intOf i).toNat)
              case atStart => exact ⟨0, Nat.zero_le _, rfl, Below.refl _ _⟩
              case round =>
                obtain ⟨j, hj, rfl, hbi⟩ := hrel
                by_cases hjl : j < m4
                · obtain ⟨⟨⟨kr, pr⟩, hkpr⟩, hr⟩ : ∃ r, L4[j]? = some r := ⟨_, List.getElem?_eq_getElem (by have := HM4.out; omega)⟩
                  have hR6 := (HR6.out.below (HB5.out)).below hbi
                  have hR5 := HR5.out.below hbi
                  obtain ⟨g5, c5, e5⟩ : ∃ g5 c5, Value.slice a5 m4 cap5 = .slice (some ⟨g5, 0, none⟩) m4 c5 := by
                    rcases hR5.form with ⟨_, h0⟩ | ⟨g, c, he, _⟩
                    · omega
                    · exact ⟨g, c, he⟩
                  obtain ⟨g6, c6, e6⟩ : ∃ g6 c6, Value.slice a6 m4 m4 = .slice (some ⟨g6, 0, none⟩) m4 c6 := by
                    rcases hR6.form with ⟨_, h0⟩ | ⟨g, c, he, _⟩
                    · omega
                    · exact ⟨g, c, he⟩
                  simp only [Value.slice.injEq, true_and] at e5 e6
                  obtain ⟨rfl, rfl⟩ := e5
                  obtain ⟨rfl, rfl⟩ := e6
                  have hS := And.intro (Row.range4 hR5 hr) (Row.range4 hR6 hr)
                  dsimp only [recRow] at hS
                  have HSS := Lib.hid hS
                  have HBI := Lib.hid hbi
                  have hj0 : (0 : Int) ≤ (j : Int) := by omega
                  have hm4b : (m4 : Int) ≤ 1000 := by have h1 := HG4.out.len; rw [HLM.out] at h1; have h2 := HK.out; omega
                  have hj1 : (j : Int) < (m4 : Int) := by omega
                  have hneq := fun w0 => neq_rec (kr : Nat) pr w0
                  have hgd := guard38
                  clear hR5 hR6 hr hS hbi hj hjl
                  go_wp2_with fail
                  refine wp_region_peel2 (by kernel_rfl) (by simp only [List.dropLast_cons_cons, List.dropLast_singleton]; exact rfl) rfl (by kernel_rfl) ?_
                  refine wpAny_of_held (S := fun w' => w'.rangeAt g5 (j * 4) [.int .u8 (kr : Nat), .string pr, .bool false, .int .i64 0] ∧ w'.rangeAt g6 (j * 4) [.int .u8 (kr : Nat), .string pr, .bool false, .int .i64 0]) _ _ _ _ ?_
                  have hHeld : wr.drew.rangeAt g5 (j * 4) [.int .u8 (kr : Nat), .string pr, .bool false, .int .i64 0] ∧ wr.drew.rangeAt g6 (j * 4) [.int .u8 (kr : Nat), .string pr, .bool false, .int .i64 0] := HSS.out
                  refine wpAnyH_take (i := 0) (v := ?v59) rfl (by kernel_rfl) (by kernel_rfl) (by kernel_rfl) (fun _ _ _ h => h) (Or.inl ⟨by rfl, ?hy59⟩) (by assumption) ?rest59
                  case hy59 => (intro w0 hSw; (try dsimp only at hSw); go_simp; try with_reducible rfl)
                  try simp only [Act.put, List.getElem_toArray, List.getElem_cons_zero, List.getElem_cons_succ, List.setIfInBounds_toArray, List.set_cons_zero, List.set_cons_succ]
                  refine wpAnyH_take (i := 1) (v := ?v60) rfl (by kernel_rfl) (by kernel_rfl) (by kernel_rfl) (fun _ _ _ h => h) (Or.inl ⟨by rfl, ?hy60⟩) (by assumption) ?rest60
                  case hy60 => (intro w0 hSw; (try dsimp only at hSw); go_simp; try with_reducible rfl)
                  try simp only [Act.put, List.getElem_toArray, List.getElem_cons_zero, List.getElem_cons_succ, List.setIfInBounds_toArray, List.set_cons_zero, List.set_cons_succ]
                  refine wpAnyH_take (i := 2) (v := ?v61) rfl (by kernel_rfl) (by kernel_rfl) (by kernel_rfl) (fun _ _ _ h => h) (Or.inl ⟨by rfl, ?hy61⟩) (by assumption) ?rest61
                  case hy61 => (intro w0 hSw; (try dsimp only at hSw); go_simp; try with_reducible rfl)
                  try simp only [Act.put, List.getElem_toArray, List.getElem_cons_zero, List.getElem_cons_succ, List.setIfInBounds_toArray, List.set_cons_zero, List.set_cons_succ]
                  refine wpAnyH_take (i := 3) (v := .agg #[.int .u8 (kr : Nat), .string pr, .bool false, .int .i64 0]) rfl (by kernel_rfl) (by kernel_rfl) (by kernel_rfl) (fun _ _ _ h => h) (yieldsIf_load_mid (by rfl) 38 (.tmp 116) rfl g5 (j * 4) (by simp [Act.eval]) [.int .u8 (kr : Nat), .string pr, .bool false, .int .i64 0] _ (fun W hW => hW.1) Try.underlying38 rfl info38r) (by assumption) ?_
                  try simp only [Act.put, List.getElem_toArray, List.getElem_cons_zero, List.getElem_cons_succ, List.setIfInBounds_toArray, List.set_cons_zero, List.set_cons_succ]
                  refine wpAnyH_take (i := 4) (v := ?v63) rfl (by kernel_rfl) (by kernel_rfl) (by kernel_rfl) (fun _ _ _ h => h) (Or.inl ⟨by rfl, ?hy63⟩) (by assumption) ?rest63
                  case hy63 => (intro w0 hSw; (try dsimp only at hSw); go_simp; try with_reducible rfl)
                  try simp only [Act.put, List.getElem_toArray, List.getElem_cons_zero, List.getElem_cons_succ, List.setIfInBounds_toArray, List.set_cons_zero, List.set_cons_succ]
                  refine wpAnyH_take (i := 5) (v := ?v64) rfl (by kernel_rfl) (by kernel_rfl) (by kernel_rfl) (fun _ _ _ h => h) (Or.inl ⟨by rfl, ?hy64⟩) (by assumption) ?rest64
                  case hy64 => (intro w0 hSw; (try dsimp only at hSw); go_simp; try with_reducible rfl)
                  try simp only [Act.put, List.getElem_toArray, List.getElem_cons_zero, List.getElem_cons_succ, List.setIfInBounds_toArray, List.set_cons_zero, List.set_cons_succ]
                  refine wpAnyH_take (i := 6) (v := ?v65) rfl (by kernel_rfl) (by kernel_rfl) (by kernel_rfl) (fun _ _ _ h => h) (Or.inl ⟨by rfl, ?hy65⟩) (by assumption) ?rest65
                  case hy65 => (intro w0 hSw; (try dsimp only at hSw); go_simp; try with_reducible rfl)
                  try simp only [Act.put, List.getElem_toArray, List.getElem_cons_zero, List.getElem_cons_succ, List.setIfInBounds_toArray, List.set_cons_zero, List.set_cons_succ]
                  refine wpAnyH_take (i := 7) (v := .agg #[.int .u8 (kr : Nat), .string pr, .bool false, .int .i64 0]) rfl (by kernel_rfl) (by kernel_rfl) (by kernel_rfl) (fun _ _ _ h => h) (yieldsIf_load_mid (by rfl) 38 (.tmp 120) rfl g6 (j * 4) (by simp [Act.eval]) [.int .u8 (kr : Nat), .string pr, .bool false, .int .i64 0] _ (fun W hW => hW.2) Try.underlying38 rfl info38r) (by assumption) ?_
                  try simp only [Act.put, List.getElem_toArray, List.getElem_cons_zero, List.getElem_cons_succ, List.setIfInBounds_toArray, List.set_cons_zero, List.set_cons_succ]
                  refine wpAnyH_done (by kernel_rfl) ?_ _
                  change wpList _ _ _ _ _ _
                  clear hHeld
                  go_wp2_with fail
                  go_roundw
                  case rel => exact ⟨j + 1, by omega, by go_num, below_dr' HBI.out⟩
                  case measure => simp [intOf]; omega
                · have hj1 : (m4 : Int) ≤ (j : Int) := by omega
                  have HBI := Lib.hid hbi
                  clear hbi
                  go_wp2_with fail
                  go_roundw
                  case rel => exact row_next (k := k + 1) (x := x4) (y := y4) (bx := Wr.heap.size) HK.out (by go_num) H4.out (by rw [HL4.out, HM4.out]; exact HR6.out) HOWN6.out HG4.out (HB5.out.trans (HBI.out.mono HB5.out.size))
                  case measure => simp [intOf]; omega
      · have hkl : (l.length : Int) ≤ (k : Int) := by omega
        clear hlt
        go_wp2_with fail
        refine (works_any _).mono ?_
        rintro e w' ⟨rfl, hb⟩
        have H2 := Lib.hid (HLG.out.on hb); clear hb
        go_wp2_with fail
        go_ret
        exact ⟨rfl, H2.out.below⟩
end Go.Proofs.Ytbnnbaoimidfnaa.lg

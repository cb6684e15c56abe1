/- LogKept: records are put, synced, cut off, while the power may go: the walk up to the crash. -/
import Derived.Test.YtbnnbaoimidfnaaQ
import Derived.Test.YtbnnbaoimidfnaaN
import Derived.Deep.CutBlock
import Derived.Deep.DeepCutAuto
namespace Go.Proofs.Ytbnnbaoimidfnaa.lg
set_option linter.unusedSimpArgs false
set_option linter.unusedVariables false
open Go.RowKit byt frm dsk
attribute [local go_sem ↓] Go.wp_at_zero Go.wp_at_succ

/-- What stands behind the loop. -/
def KeptOut (w : World) (lp : Nat) (v s : Value) (wr : World) : Prop :=
  ∃ (x : D) (y : Lg) (A : List Fr) (sn k n cap : Nat) (a : Option Addr), v = .slice a n cap ∧ s = .int .i64 (sn : Nat) ∧ LogW w.heap.size w lp w.heap.size x y (fun g => (Value.slice a n cap).ownBlock = some g) wr ∧ Row wr 38 4 (.slice a n cap) n (recRows A) ∧ A.length = n ∧
    (∀ g, (Value.slice a n cap).ownBlock = some g → w.heap.size ≤ g) ∧ KExit x y A sn k ∧ k ≤ 100 ∧ sn ≤ n
def KRel (w : World) (lp : Nat) (l : List Rc) (gk : Nat) (v s i : Value) (wr : World) : Prop :=
  ∃ (k : Nat) (x : D) (y : Lg) (P Q : List Fr) (n cap : Nat) (a : Option Addr), k + gk = l.length ∧ i = .int .i64 (k : Nat) ∧ v = .slice a n cap ∧ s = .int .i64 (P.length : Nat) ∧ LogW w.heap.size w lp w.heap.size x y (fun g => (Value.slice a n cap).ownBlock = some g) wr ∧ Row wr 38 4 (.slice a n cap) n (recRows y.recs) ∧ y.recs.length = n ∧
    (∀ g, (Value.slice a n cap).ownBlock = some g → w.heap.size ≤ g) ∧ Inv x y P Q k
/-- Behind a Put: the law has the records that the log has. -/
def KMid (w : World) (lp bx n : Nat) (x : D) (y : Lg) (cs : Array Value) (v : Value) (wr : World) : Prop :=
  ∃ (cap : Nat) (a : Option Addr), v = .slice a n cap ∧ LogW w.heap.size w lp w.heap.size x y (fun g => g = bx ∨ (Value.slice a n cap).ownBlock = some g) wr ∧ Row wr 38 4 (.slice a n cap) n (recRows y.recs) ∧
    (∀ g, (Value.slice a n cap).ownBlock = some g → w.heap.size ≤ g) ∧ (Value.slice a n cap).ownBlock ≠ some bx ∧ wr.heap[bx]? = some (.cells cs 38 (0, 0))
/-- A Sync, where one is asked for. -/
def syncIf (sy : Bool) (x : D) (y : Lg) : Int × D × Lg := if sy = true then syncL x y else (1, x, y)
theorem syncIf_inv {x x2 : D} {y y2 : Lg} {E : Int} {P Q : List Fr} {k : Nat} {sy : Bool} (hi : Inv x y P Q k) (hy : y.Ok x) (h : syncIf sy x y = (E, x2, y2)) :
    y2.recs = y.recs ∧ (E = 0 → Inv x2 y2 y.recs [] k) ∧ (E ≠ 0 → Inv x2 y2 P Q k) := by
  unfold syncIf at h
  cases sy with
  | true => rw [if_pos rfl] at h; exact syncL_inv hi hy h
  | false =>
    rw [if_neg (by decide)] at h
    simp only [Prod.mk.injEq] at h
    obtain ⟨rfl, rfl, rfl⟩ := h
    exact ⟨rfl, fun h => absurd h (by decide), fun _ => hi⟩
theorem putR_len {x x2 : D} {y y2 : Lg} {E : Int} {P Q : List Fr} {k kd : Nat} {t : ByteArray} (hi : Inv x y P Q k) (h : putR x y kd t = (E, x2, y2)) : ∃ Q2, Inv x2 y2 P Q2 (k + 1) := by
  rcases putR_inv hi h with ⟨_, _, _, _, h⟩ | ⟨_, _, h⟩
  · exact ⟨_, h⟩
  · exact ⟨_, h⟩
theorem powerOK {n : Int} (hn : 0 ≤ n) : ((D.fresh 4194304).power n).1 = 0 := by
  unfold D.power
  rw [if_neg (by show ¬ (false = true); decide), if_neg (by omega)]
theorem inv_loose {x : D} {y : Lg} {P Q : List Fr} {k : Nat} (h : Inv x y P Q k) : x.loose.length ≤ k := by
  have h1 := h.len
  rw [h.recs, List.length_append] at h1
  rw [h.loose, List.length_map]; omega
theorem inv_P {x : D} {y : Lg} {P Q : List Fr} {k : Nat} (h : Inv x y P Q k) : P.length ≤ y.recs.length := by rw [h.recs, List.length_append]; omega

theorem slice_row2 {w : World} {a : Option Addr} {n cap m : Nat} {xs : List Value} (h : Row w 38 4 (.slice a n cap) n xs) (hm : m ≤ n) (w' : World) :
    (Instr.slice 36 (.slice a n cap) none (some (.int .i64 (m : Nat))) none).run Try.prog w' = .ok (.slice a m cap) w' := by
  have hu : Try.prog.underlying 36 = some (.slice (Try.prog.elem 36)) := by kernel_rfl
  have hs : (sizeOf (Try.prog.elem 36)).run Try.prog w' = .ok 4 w' := by kernel_rfl
  rw [run_slice_any w' 36 a n cap hu]
  have hcap : m ≤ cap := by
    rcases h.form with ⟨he, h0⟩ | ⟨g, c, he, h1, _⟩
    · simp only [Value.slice.injEq] at he; omega
    · simp only [Value.slice.injEq] at he; omega
  have hb : (Instr.sliceBounds true n cap none (some (.int .i64 (m : Nat))) none).run Try.prog w' = .ok (0, m, cap) w' := by
    simp [Instr.sliceBounds, run_sliceBound, hcap]
  rw [hb]
  simp only [Result.andThen, hs]
  rcases h.form with ⟨he, h0⟩ | ⟨g, c, he, h1, _⟩
  · simp only [Value.slice.injEq] at he
    obtain ⟨rfl, _, rfl⟩ := he
    simp [sliced]
  · simp only [Value.slice.injEq] at he
    obtain ⟨rfl, _, rfl⟩ := he
    simp [sliced, Addr.add]
theorem row_cut2 {w : World} {a : Option Addr} {n cap m : Nat} {L : List Fr} (h : Row w 38 4 (.slice a n cap) n (recRows L)) (hm : m ≤ n) : Row w 38 4 (.slice a m cap) m (recRows (L.take m)) := by
  rw [← recRows_take]
  rcases h.form with ⟨he, h0⟩ | ⟨g, c, he, h1, _⟩
  · simp only [Value.slice.injEq] at he
    obtain ⟨rfl, _, rfl⟩ := he
    obtain rfl : m = 0 := by omega
    simp only [Nat.zero_mul, List.take_zero]
    exact Row.nil _ _ _
  · simp only [Value.slice.injEq] at he
    obtain ⟨rfl, _, rfl⟩ := he
    exact h.cut hm (by omega) (Nat.le_refl _)
theorem openTwo {B d : Nat} {w0 w : World} {x : D} {K : Nat → Prop} {R : List Fr} (hs : Settled x) (hR : all (x.now 2) = R) (hx : HereW B w0 d x K w) :
    Calls Try.prog 8 #[ptr d 0, .int .i64 2] w fun e w' => ∃ (l : Nat) (x2 : D), e = .returned (.tuple #[ptr l 0, .int .i64 0]) ∧ LogW B w0 l d x2 ⟨2, R, R.length, false⟩ K w' ∧ Same K w w' ∧ Settled x2 ∧ x2.now 2 = bytesOf R := by
  have ho := openD_settled hs (f := 2) (by decide)
  refine (openW hs (f := 2) (by decide) hx).mono ?_
  rintro e w' ⟨l, he, hl, hsm⟩
  have e1 : openL x 2 = ⟨2, R, R.length, false⟩ := by unfold openL; rw [hR]
  rw [e1] at hl
  exact ⟨l, _, he, hl, hsm, ho.1, by rw [ho.2, hR]⟩
theorem crash_again {x : D} (h : Settled x) : (x.crash 0 0).now = x.now := by
  show x.kept 0 0 = run x.sure x.loose
  unfold D.kept
  rw [h.loose]
  rfl
theorem crashBack {B d : Nat} {w0 w : World} {x : D} {K : Nat → Prop} (hs : Settled x) (hx : HereW B w0 d x K w) : Calls Try.prog 17 #[ptr d 0, .int .i64 0, .int .i64 0] w fun e w' => e = .returned (.tuple #[]) ∧ HereW B w0 d (x.crash 0 0) K w' ∧ Same K w w' :=
  crashW (n := 0) (k := 0) ⟨by decide, by decide⟩ ⟨by decide, by decide⟩ hx (by rw [hs.loose]; decide)
def RRel (w : World) (v s i : Value) (wr : World) : Prop :=
  ∃ (x : D) (A : List Fr) (k sn j n cap : Nat) (a : Option Addr), k ≤ 2 ∧ i = .int .i64 (k : Nat) ∧ v = .slice a n cap ∧ s = .int .i64 (sn : Nat) ∧ HereW w.heap.size w w.heap.size x (fun g => (Value.slice a n cap).ownBlock = some g) wr ∧ Settled x ∧
    Row wr 38 4 (.slice a n cap) n (recRows A) ∧ A.length = n ∧ (∀ g, (Value.slice a n cap).ownBlock = some g → w.heap.size ≤ g) ∧ sn ≤ j ∧ j ≤ n ∧ n ≤ 200 ∧ all (x.now 2) = A.take j
theorem hereDrop {B d : Nat} {w0 w w' : World} {x : D} {K K' : Nat → Prop} (h : HereW B w0 d x K w) (hK : ∀ k, K' k → K k) : HereW B w0 d x K' w := by
  obtain ⟨F, h1, h2, h3, h4, h5⟩ := h
  exact ⟨F, h1, fun k hk => ⟨(h2 k hk).1, fun h => (h2 k hk).2 (hK k h)⟩, h3, h4, fun k hk => h5 k (hK k hk)⟩
theorem fine_all {x : D} {R : List Fr} (h : all (x.now 2) = R) : Fine R := by rw [← h]; exact all_fine _
set_option maxHeartbeats 6400000 in
set_option maxRecDepth 100000 in
theorem law_kept (l : List Rc) (a : Option Addr) (cap : Nat) (n n1 n2 : Int) (w : World) (hr : Rcs w w.heap.size a l) (hl : l.length ≤ cap) (hc : cap ≤ 9223372036854775807) (hf : ∀ p ∈ l, p.fit) (hn : fitI n) (hn1 : fitI n1) (hn2 : fitI n2) :
    Calls Try.prog 4 #[.slice a l.length cap, .int .i64 n, .int .i64 n1, .int .i64 n2] w fun e w' => e = .returned (.bool true) ∧ Below w.heap.size w w' := by
  by_cases hbig : 100 < l.length ∨ n < 0
  · clear hr hf
    by_cases h1 : 100 < l.length
    · have h1' : (100 : Int) < (l.length : Int) := by omega
      clear hbig h1 hl
      go_enter Try.func4, Try.ntmps4
      go_wp2_with fail
      refine (works_any _).mono ?_
      rintro e w' ⟨rfl, hb⟩
      have HB := Lib.hid hb; clear hb
      go_wp2_with fail
      go_ret
      exact ⟨rfl, HB.out⟩
    · have h1' : (l.length : Int) ≤ 100 := by omega
      have h2' : n < 0 := by omega
      clear hbig h1 hl
      go_enter Try.func4, Try.ntmps4
      go_wp2_with fail
      refine (works_any _).mono ?_
      rintro e w' ⟨rfl, hb⟩
      have HB := Lib.hid hb; clear hb
      go_wp2_with fail
      go_ret
      exact ⟨rfl, HB.out⟩
  · obtain ⟨i0, hi, hz0', hz1', hz2'⟩ := info38
    have hbig' : (l.length : Int) ≤ 100 := by omega
    have hn0 : (0 : Int) ≤ n := by omega
    have HR := Lib.hid hr
    have HF := Lib.hid hf
    have HNF := Lib.hid (And.intro hn (And.intro hn1 hn2))
    obtain ⟨x2, hp⟩ : ∃ x2, (D.fresh 4194304).power n = (0, x2) := ⟨_, Prod.ext (powerOK hn0) rfl⟩
    have HP := Lib.hid hp
    clear hr hf hbig hn hn1 hn2 hp
    go_enter Try.func4, Try.ntmps4
    go_wp2_with fail
    refine (newBig w).mono ?_
    rintro e a1 ⟨rfl, h⟩
    have H := Lib.hid h; clear h
    go_wp2_with fail
    refine (openBig 2 (by decide) H.out).mono ?_
    rintro e a2 ⟨lp, rfl, h⟩
    have H := Lib.hid h; clear h
    go_wp2_with fail
    refine (powerW HP.out HNF.out.1.2 H.out).mono ?_
    rintro e a3 ⟨rfl, h, -⟩
    have H := Lib.hid h; clear h
    go_upto_block 0 with fail
    go_cut [13, 14] (fun v s wr => KeptOut w lp v s wr)
    case first =>
      go_wp2_with fail
      go_loopg [13, 14, 54] l.length (fun g v s i wr => KRel w lp l g v s i wr)
      case atStart => exact ⟨0, x2, _, [], [], 0, 0, none, Nat.zero_add _, rfl, rfl, rfl, drop_box H.out (fun g hg => by simp [Value.ownBlock] at hg), Row.nil _ _ _, rfl, (fun g hg => by simp [Value.ownBlock] at hg), Inv.start HP.out⟩
      case round =>
        rename World => Wr
        obtain ⟨k, x, y, P, Q, n, cap3, a3, hkg, rfl, rfl, rfl, hlog, hrow, hn, hown, hinv⟩ := hrel
        obtain ⟨L, hL⟩ : ∃ L, y.recs = L := ⟨_, rfl⟩
        rw [hL] at hrow hn
        obtain ⟨sn, hsn⟩ : ∃ sn, P.length = sn := ⟨_, rfl⟩
        rw [hsn]
        have HLG := Lib.hid hlog
        have HROW := Lib.hid hrow
        have HOWN := Lib.hid hown
        have HI := Lib.hid hinv
        have HL0 := Lib.hid hL
        have HN0 := Lib.hid hn
        have HSN := Lib.hid hsn
        clear hlog hrow hown hinv hL hn hsn
        by_cases hlt : k < l.length
        · obtain ⟨b, o, rfl, hbl, hcs⟩ := HR.out (by rintro rfl; simp at hlt)
          obtain ⟨p, ep⟩ : ∃ p, l.getD k noRc = p := ⟨_, rfl⟩
          have hck : Wr.rangeAt b (o + k * 4) p.cells := by
            intro j v hv
            rw [← ep] at hv
            exact (HLG.out.below.cell (p := ⟨b, o + k * 4 + j, none⟩) hbl).trans (hcs k hlt j v hv)
          have hfit : p.fit := by
            rw [← ep, List.getD_eq_getElem?_getD, List.getElem?_eq_getElem hlt]
            exact HF.out _ (List.getElem_mem hlt)
          obtain ⟨kd, t, sy, c⟩ := p
          obtain ⟨hp1, hp2, hp3⟩ := hfit
          have HC := Lib.hid hck
          dsimp only [Rc.cells] at HC hp1 hp2 hp3
          have HBX := Lib.hid (heap_alloc_new Wr (.cells #[.int .u8 (kd : Nat), .string t, .bool sy, .int .i64 c] 38))
          have H1 := Lib.hid (new_box HLG.out (.cells #[.int .u8 (kd : Nat), .string t, .bool sy, .int .i64 c] 38))
          clear hcs hck ep
          have hkl : (k : Int) < (l.length : Int) := by omega
          have HK := Lib.hid (And.intro hkg hlt)
          by_cases ht : 1000 < t.size
          · have ht' : (1000 : Int) < (t.size : Int) := by omega
            go_wp2_with (first | (refine wpList_load_mid rfl 38 (.tmp 56) rfl b (o + k * 4) rfl [.int .u8 (kd : Nat), .string t, .bool sy, .int .i64 c] _ HC.out Try.underlying38 rfl info38r ?_))
            refine (works_any _).mono ?_
            rintro e w' ⟨rfl, hb⟩
            have H2 := Lib.hid (H1.out.on hb); clear hb
            go_wp2_with fail
            go_ret
            exact ⟨rfl, H2.out.below⟩
          · have ht' : (t.size : Int) ≤ 1000 := by omega
            obtain ⟨E, x3, y3, hput⟩ : ∃ E x3 y3, putR x y kd t = (E, x3, y3) := ⟨_, _, _, rfl⟩
            have HPUT := Lib.hid hput
            have HLN := Lib.hid (And.intro (show x.loose.length ≤ 1099511627776 by have := inv_loose HI.out; omega) (And.intro (show t.size ≤ 65536 by omega) hp1))
            have hne : (Value.slice a3 n cap3).ownBlock ≠ some Wr.heap.size := fun e => by have := HROW.out.lt e; omega
            have HNE := Lib.hid hne
            have HWB := Lib.hid (show w.heap.size ≤ Wr.heap.size from HLG.out.below.size)
            have HPI := Lib.hid (putR_inv HI.out hput)
            obtain ⟨Q3, hinv3⟩ := putR_len HI.out hput
            have HI3 := Lib.hid hinv3
            obtain ⟨n3, hn3⟩ : ∃ n3, y3.recs.length = n3 := ⟨_, rfl⟩
            have HN3 := Lib.hid hn3
            have hn100 : n ≤ 200 := by have := HI.out.len; rw [HL0.out, HN0.out] at this; omega
            have hn3b : (n3 : Int) ≤ 101 := by have := HI3.out.len; rw [hn3] at this; omega
            clear hput hne hinv3 hn3 ht hp1 hp2 hlt
            go_wp2_with (first | (refine wpList_load_mid rfl 38 (.tmp 56) rfl b (o + k * 4) rfl [.int .u8 (kd : Nat), .string t, .bool sy, .int .i64 c] _ HC.out Try.underlying38 rfl info38r ?_))
            refine (putW HLN.out.2.2 HLN.out.2.1 HPUT.out H1.out HLN.out.1).mono ?_
            rintro e w3 ⟨rfl, h3, hs3⟩
            have HBX3 := Lib.hid ((hs3 _ (.inl rfl)).trans HBX.out)
            have HROW3 := Lib.hid (HROW.out.frame (w' := w3) fun g hg => (hs3 g (.inr hg)).trans (heap_alloc_old Wr _ (HROW.out.lt hg)))
            have H3 := Lib.hid h3
            clear h3 hs3
            go_upto_if 69 with fail
            go_cut [13] (fun v wr => KMid w lp Wr.heap.size n3 x3 y3 #[.int .u8 (kd : Nat), .string t, .bool sy, .int .i64 c] v wr)
            case first =>
              by_cases hE : E = 0
              · have hE' : (E == 0) = true := by simp [hE]
                obtain ⟨hx, hk0, hrec, _⟩ : ∃ hx : kd < 256 ∧ t.size ≤ 65536, 0 < kd ∧ y3.recs = y.recs ++ [⟨(kd, t), hx⟩] ∧ True := by
                  rcases HPI.out with ⟨_, hx, hk0, hrec, _⟩ | ⟨h, _⟩
                  · exact ⟨hx, hk0, hrec, trivial⟩
                  · exact absurd hE h
                rw [HL0.out] at hrec
                have HREC := Lib.hid hrec
                have HNN := Lib.hid (show n + 1 = n3 by rw [← HN3.out, hrec, List.length_append, HN0.out]; rfl)
                obtain ⟨c0, c1, -, -⟩ := box4 (r := ⟨kd, t, sy, c⟩) HBX3.out
                dsimp only at c0 c1
                clear hrec hE hk0
                go_wp2_with (at_builtin; refine wpList_append_row _ rfl (.tmp 70) (.tmp 76) 36 rfl 38 i0 (.agg #[.int .u8 0, .string ⟨#[]⟩, .bool false, .int .i64 0]) 4 40 Try.underlying36 hi hz0' hz1' hz2' rfl (by decide) _ n (recRows L) rfl (Row.frame (w := w3) HROW3.out fun g hg => heap_alloc_old w3 _ (HROW3.out.lt hg)) ⟨_, 0, none⟩ 1 1 [.int .u8 (kd : Nat), .string t, .bool false, .int .i64 0] rfl rfl (World.news_of_block (cs := #[.int .u8 (kd : Nat), .string t, .bool false, .int .i64 0]) (t := 38) (fr := (0, 0)) (heap_alloc_new _ _)) (by simp [Value.oneCell']) (by decide) (by unfold maxLen; omega) (by omega) _ (World.size_alloc _ _) ?_)
                intro g cap7 w7 hrow7 hg7 hat7 hlt7
                rw [HNN.out] at hrow7 ⊢
                obtain ⟨h7, hB7, hne7, hbx7⟩ := row_pushed (n := n3) (cap := cap7) H3.out HOWN.out HWB.out HNE.out HROW3.out hg7 hat7 hlt7
                have HEND := Lib.hid (show KMid w lp Wr.heap.size n3 x3 y3 #[.int .u8 (kd : Nat), .string t, .bool sy, .int .i64 c] (.slice (some ⟨g, 0, none⟩) n3 cap7) w7 from
                  ⟨cap7, some ⟨g, 0, none⟩, rfl, h7, by rw [HREC.out, recRows_snoc]; exact hrow7, fun g' hg' => by simp [Value.ownBlock] at hg'; omega, fun e => by simp [Value.ownBlock] at e; exact hne7 e, hbx7.trans HBX3.out⟩)
                clear hrow7 hg7 hat7 hlt7 h7 hB7 hne7 hbx7 c0 c1
                go_wp2_with fail
                go_meet
                exact HEND.out
              · have hE' : (E == 0) = false := by simp [hE]
                have hrec : y3.recs = L := by
                  rcases HPI.out with ⟨h, _⟩ | ⟨_, h, _⟩
                  · exact absurd h hE
                  · rw [h]; exact HL0.out
                obtain rfl : n3 = n := by rw [← HN3.out, hrec]; exact HN0.out
                have HEND := Lib.hid (show KMid w lp Wr.heap.size n3 x3 y3 #[.int .u8 (kd : Nat), .string t, .bool sy, .int .i64 c] (.slice a3 n3 cap3) w3 from ⟨cap3, a3, rfl, H3.out, by rw [hrec]; exact HROW3.out, HOWN.out, HNE.out, HBX3.out⟩)
                clear hE hrec
                go_wp2_with fail
                go_meet
                exact HEND.out
            case rest =>
              rename World => w4
              obtain ⟨cap4, a4, rfl, h4, hrow4, hown4, hne4, hbx4⟩ := hcut
              obtain ⟨L4, hL4⟩ : ∃ L4, y3.recs = L4 := ⟨_, rfl⟩
              rw [hL4] at hrow4
              have H4 := Lib.hid h4
              have HROW4 := Lib.hid hrow4
              have HOWN4 := Lib.hid hown4
              have HBX4 := Lib.hid hbx4
              have HL4 := Lib.hid hL4
              clear h4 hrow4 hown4 hne4 hbx4 hL4 HPI
              obtain ⟨E5, x5, y5, hsync⟩ : ∃ E5 x5 y5, syncIf sy x3 y3 = (E5, x5, y5) := ⟨_, _, _, rfl⟩
              have HSYNC := Lib.hid hsync
              obtain ⟨hr5, hi5, hj5⟩ := syncIf_inv HI3.out H4.out.ok hsync
              have HI5 := Lib.hid (And.intro (hr5.trans HL4.out) (And.intro hi5 hj5))
              clear hsync hr5 hi5 hj5
              go_upto_region 16 with fail
              go_cut [84] (fun bv wr => bv = .bool (E5 == 0) ∧ LogW w.heap.size w lp w.heap.size x5 y5 (fun g => g = Wr.heap.size ∨ (Value.slice a4 n3 cap4).ownBlock = some g) wr ∧ Same (fun g => g = Wr.heap.size ∨ (Value.slice a4 n3 cap4).ownBlock = some g) w4 wr)
              case first =>
                obtain ⟨-, -, c2, -⟩ := box4 (r := ⟨kd, t, sy, c⟩) HBX4.out
                dsimp only at c2
                cases sy with
                | false =>
                  have hs := HSYNC.out
                  unfold syncIf at hs
                  rw [if_neg (by decide)] at hs
                  simp only [Prod.mk.injEq] at hs
                  obtain ⟨rfl, rfl, rfl⟩ := hs
                  go_wp2_with fail
                  go_meet
                  exact ⟨rfl, H4.out, Same.refl _ _⟩
                | true =>
                  have hs := HSYNC.out
                  unfold syncIf at hs
                  rw [if_pos rfl] at hs
                  have HS := Lib.hid hs
                  clear hs
                  go_wp2_with fail
                  refine (syncW HS.out H4.out).mono ?_
                  rintro e w5 ⟨rfl, h5, hs5⟩
                  have H5 := Lib.hid (And.intro h5 hs5)
                  clear h5 hs5
                  go_wp2_with fail
                  go_meet
                  exact ⟨rfl, H5.out.1, H5.out.2⟩
              case rest =>
                rename World => w5
                obtain ⟨rfl, h5, hs5⟩ := hcut
                have HBX5 := Lib.hid ((hs5 _ (.inl rfl)).trans HBX4.out)
                have HROW5 := Lib.hid (HROW4.out.frame (w' := w5) fun g hg => hs5 g (.inr hg))
                have H5 := Lib.hid h5
                clear h5 hs5
                obtain ⟨P5, Q5, s5, hinv5, hs5, hs5a, hs5b⟩ : ∃ P5 Q5 s5, Inv x5 y5 P5 Q5 (k + 1) ∧ P5.length = s5 ∧ (E5 = 0 → s5 = n3) ∧ (E5 ≠ 0 → s5 = sn) := by
                  by_cases h : E5 = 0
                  · exact ⟨_, _, n3, HI5.out.2.1 h, HN3.out, fun _ => rfl, fun h' => absurd h h'⟩
                  · exact ⟨_, _, sn, HI5.out.2.2 h, HSN.out, fun h' => absurd h' h, fun _ => rfl⟩
                have HI6 := Lib.hid hinv5
                have HS5 := Lib.hid hs5
                have HSA := Lib.hid (And.intro hs5a hs5b)
                clear hinv5 hs5 hs5a hs5b
                go_upto_if 84 with fail
                go_cut [14] (fun sv wr => sv = .int .i64 (s5 : Nat) ∧ wr = w5)
                case first =>
                  by_cases h : E5 = 0
                  · have hb : (E5 == 0) = true := by simp [h]
                    obtain rfl := HSA.out.1 h
                    clear h
                    go_wp2_with fail
                    go_meet
                    exact ⟨rfl, rfl⟩
                  · have hb : (E5 == 0) = false := by simp [h]
                    obtain rfl := HSA.out.2 h
                    clear h
                    go_wp2_with fail
                    go_meet
                    exact ⟨rfl, rfl⟩
                case rest =>
                  rename World => w6
                  obtain ⟨rfl, rfl⟩ := hcut
                  have HL5 := Lib.hid HI5.out.1
                  clear HSA HI5
                  obtain ⟨z, hz⟩ : ∃ z, wrap64 ((n3 : Int) - c) = z := ⟨_, rfl⟩
                  have hL5 : y5.recs = L4 := HL5.out
                  have c3 := (box4 (r := ⟨kd, t, sy, c⟩) HBX5.out).2.2.2
                  dsimp only at c3
                  by_cases hc0 : 0 < c
                  · have hzn : z = (n3 : Int) - c := by rw [← hz]; unfold wrap64; have := hp3.2; omega
                    by_cases hz0 : 0 ≤ z
                    · obtain ⟨m, rfl⟩ : ∃ m : Nat, z = m := ⟨z.toNat, by omega⟩
                      have hm : m < n3 := by omega
                      have hmL : m < y5.recs.length := by rw [hL5, ← HL4.out, HN3.out]; exact hm
                      obtain ⟨E6, x6, y6, hcut6⟩ : ∃ E6 x6 y6, cutL x5 y5 m = (E6, x6, y6) := ⟨_, _, _, rfl⟩
                      have HCUT := Lib.hid hcut6
                      have HCI := Lib.hid (cutL_inv HI6.out H5.out.ok hmL hcut6)
                      have HLO := Lib.hid (show x5.loose.length ≤ 1099511627776 by have := inv_loose HI6.out; omega)
                      have hm1 : (m : Int) ≤ (n3 : Int) := by omega
                      have hm0 : (0 : Int) ≤ (m : Int) := by omega
                      have hsl := fun w' => slice_row HROW5.out (Nat.le_of_lt hm) w'
                      have HRC := Lib.hid (row_cut HROW5.out (Nat.le_of_lt hm))
                      by_cases hE6 : E6 = 0
                      · subst hE6
                        obtain ⟨hrec, hinv6⟩ : y6.recs = L4.take m ∧ Inv x6 y6 (L4.take m) [] (k + 1) := by
                          rcases HCI.out with ⟨_, h1, h2⟩ | ⟨h, _⟩
                          · rw [hL5] at h1 h2; exact ⟨h1, h2⟩
                          · exact absurd rfl h
                        have hlen : (L4.take m).length = m := by rw [List.length_take, ← HL4.out, HN3.out]; omega
                        have HEND := Lib.hid (And.intro hrec (And.intro hinv6 hlen))
                        clear hcut6 hrec hinv6 hlen hmL hL5 hzn
                        go_wp2_with fail
                        refine (cutW HCUT.out H5.out HLO.out).mono ?_
                        rintro e w7 ⟨rfl, h7, hs7⟩
                        have H7 := Lib.hid (And.intro h7 hs7)
                        clear h7 hs7
                        go_wp2_with fail
                        obtain ⟨hrec, hinv6, hlen⟩ := HEND.out
                        obtain ⟨h7, hs7⟩ := H7.out
                        clear hsl
                        go_roundg (l.length - (k + 1))
                        case measure => have h1 := HK.out.1; have h2 := HK.out.2; omega
                        case rel =>
                          refine ⟨k + 1, x6, y6, L4.take m, [], m, m, a4, by have h2 := HK.out.2; omega, by go_num, rfl, by rw [hlen], drop_box h7 fun g hg => .inr (by rw [own_len a4 n3 cap4 m m]; exact hg), ?_, by rw [hrec, hlen], fun g hg => HOWN4.out g (by rw [own_len a4 n3 cap4 m m]; exact hg), hinv6⟩
                          rw [hrec]
                          exact HRC.out.frame (w' := w7) fun g hg => hs7 g (.inr (by rw [own_len a4 n3 cap4 m m]; exact hg))
                      · have hE6' : (E6 == 0) = false := by simp [hE6]
                        have HX6 := Lib.hid (show KExit x6 y6 L4 s5 (k + 1) by
                          rcases HCI.out with ⟨h, _⟩ | ⟨_, h⟩
                          · exact absurd h hE6
                          · rw [hL5, HS5.out] at h; exact h)
                        have HSP := Lib.hid (show s5 ≤ n3 by have := inv_P HI6.out; rw [hL5, HS5.out, ← HL4.out, HN3.out] at this; exact this)
                        clear hcut6 hmL hL5 hzn hE6 hsl
                        go_wp2_with fail
                        refine (cutW HCUT.out H5.out HLO.out).mono ?_
                        rintro e w7 ⟨rfl, h7, hs7⟩
                        have HEND := Lib.hid (show KeptOut w lp (.slice a4 n3 cap4) (.int .i64 (s5 : Nat)) w7 from
                          ⟨x6, y6, L4, s5, k + 1, n3, cap4, a4, rfl, rfl, drop_box h7 fun g hg => .inr hg, HROW5.out.frame (w' := w7) fun g hg => hs7 g (.inr hg), by rw [← HL4.out]; exact HN3.out, HOWN4.out, HX6.out, by have h2 := HK.out.2; omega, HSP.out⟩)
                        clear h7 hs7
                        go_wp2_with fail
                        go_meet
                        exact HEND.out
                    · have hz1 : z < 0 := by omega
                      clear hzn hz0
                      go_wp2_with fail
                      go_roundg (l.length - (k + 1))
                      case measure => have h1 := HK.out.1; have h2 := HK.out.2; omega
                      case rel => exact ⟨k + 1, x5, y5, P5, Q5, n3, cap4, a4, by have h2 := HK.out.2; omega, by go_num, rfl, by rw [HS5.out], drop_box H5.out fun g hg => .inr hg, by rw [hL5]; exact HROW5.out, by rw [hL5, ← HL4.out]; exact HN3.out, HOWN4.out, HI6.out⟩
                  · have hc1 : c ≤ 0 := by omega
                    clear hc0
                    go_wp2_with fail
                    go_roundg (l.length - (k + 1))
                    case measure => have h1 := HK.out.1; have h2 := HK.out.2; omega
                    case rel => exact ⟨k + 1, x5, y5, P5, Q5, n3, cap4, a4, by have h2 := HK.out.2; omega, by go_num, rfl, by rw [HS5.out], drop_box H5.out fun g hg => .inr hg, by rw [hL5]; exact HROW5.out, by rw [hL5, ← HL4.out]; exact HN3.out, HOWN4.out, HI6.out⟩
        · have hkl : (l.length : Int) ≤ (k : Int) := by omega
          obtain rfl : k = l.length := by omega
          have HEND := Lib.hid (show KeptOut w lp (.slice a3 n cap3) (.int .i64 (sn : Nat)) Wr from
            ⟨x, y, L, sn, l.length, n, cap3, a3, rfl, rfl, HLG.out, HROW.out, HN0.out, HOWN.out, by have := HI.out.exit HLG.out.ok; rwa [HL0.out, HSN.out] at this, by omega, by have := inv_P HI.out; rw [HL0.out, HN0.out, HSN.out] at this; exact this⟩)
          clear hlt
          go_wp2_with fail
          go_meet
          exact HEND.out
    case rest =>
      rename World => wz
      obtain ⟨x, y, A, sn, k, m, cap1, av, rfl, rfl, hlog, hrow, hA, hown, hex, hk, hsm⟩ := hcut
      obtain ⟨n5, hn5⟩ : ∃ n5, y.recs.length = n5 := ⟨_, rfl⟩
      obtain ⟨L0, hL0⟩ : ∃ L0, leastOf y A sn = L0 := ⟨_, rfl⟩
      have hL1 : L0 = if n5 < m then min sn n5 else sn := by rw [← hL0]; unfold leastOf; rw [hn5, hA]
      have hn5b : (n5 : Int) ≤ 101 := by have h1 := hex.le; have h2 := hex.len; rw [hn5] at h1; omega
      have hmb : (m : Int) ≤ 101 := by have h2 := hex.len; rw [hA] at h2; omega
      have HLG := Lib.hid hlog
      have HROW := Lib.hid hrow
      have HOWN := Lib.hid hown
      have HEX := Lib.hid hex
      have HA := Lib.hid hA
      have HN5 := Lib.hid hn5
      have HL0 := Lib.hid hL0
      have HL1 := Lib.hid hL1
      clear hlog hrow hown hex hA hn5 hL0 hL1 HR HF H
      go_wp2_with fail
      refine (lenW HN5.out HLG.out).mono ?_
      rintro e w' ⟨rfl, rfl⟩
      go_upto_if 116 with fail
      go_cut [20] (fun v wr => v = .int .i64 (L0 : Nat) ∧ wr = wz)
      case first =>
        by_cases hlt : n5 < m
        · have hlt' : (n5 : Int) < (m : Int) := by omega
          have hdb : decide (n5 < m) = true := by simp; omega
          rcases Nat.lt_trichotomy sn n5 with h | h | h
          · obtain rfl : L0 = sn := by rw [HL1.out, if_pos hlt]; omega
            have h' : (L0 : Int) < (n5 : Int) := by omega
            clear hlt
            go_wp2_with fail
            refine (lenW HN5.out HLG.out).mono ?_
            rintro e w' ⟨rfl, rfl⟩
            go_wp2_with fail
            go_meet
            exact ⟨rfl, rfl⟩
          · subst h
            obtain rfl : L0 = sn := by rw [HL1.out, if_pos hlt]; omega
            clear hlt
            go_wp2_with fail
            refine (lenW HN5.out HLG.out).mono ?_
            rintro e w' ⟨rfl, rfl⟩
            go_wp2_with fail
            go_meet
            exact ⟨rfl, rfl⟩
          · obtain rfl : L0 = n5 := by rw [HL1.out, if_pos hlt]; omega
            have h' : (L0 : Int) < (sn : Int) := by omega
            clear hlt
            go_wp2_with fail
            refine (lenW HN5.out HLG.out).mono ?_
            rintro e w' ⟨rfl, rfl⟩
            go_wp2_with fail
            go_meet
            exact ⟨rfl, rfl⟩
        · have hlt' : (m : Int) ≤ (n5 : Int) := by omega
          have hdb : decide (n5 < m) = false := by simp; omega
          obtain rfl : L0 = sn := by rw [HL1.out, if_neg hlt]
          clear hlt
          go_wp2_with fail
          go_meet
          exact ⟨rfl, rfl⟩
      case rest =>
        rename World => wy
        obtain ⟨rfl, rfl⟩ := hcut
        obtain ⟨j0, hj1, hj2, hj3⟩ := HEX.out.kept n1 n2
        rw [HL0.out] at hj1
        rw [HA.out] at hj2
        have HJ := Lib.hid (And.intro hj1 (And.intro hj2 hj3))
        clear hj1 hj2 hj3 HL1
        go_wp2_with fail
        refine (crashW HNF.out.2.1 HNF.out.2.2 HLG.out.disk (by have := HEX.out.loose; omega)).mono ?_
        rintro e w8 ⟨rfl, h8, hs8⟩
        have H8 := Lib.hid h8
        have HROW8 := Lib.hid (HROW.out.frame (w' := w8) fun g hg => hs8 g hg)
        clear h8 hs8
        go_wp2_with fail
        go_loopw [19, 20, 125] (fun v s i wr => RRel w v s i wr) (fun _ _ i _ => 2 - (intOf i).toNat)
        case atStart => exact ⟨x.crash n1 n2, A, 0, L0, j0, m, cap1, av, by omega, rfl, rfl, rfl, H8.out, Settled.crash _ _ _, HROW8.out, HA.out, HOWN.out, HJ.out.1, HJ.out.2.1, by omega, HJ.out.2.2⟩
        case round =>
          rename World => Wr
          obtain ⟨xx, B, k2, s2, j, nn, capB, aB, hk2, rfl, rfl, rfl, hh, hset, hrow, hB, hown, hsj, hjn, hn200, hall⟩ := hrel
          have H := Lib.hid hh
          have HSET := Lib.hid hset
          have HROW2 := Lib.hid hrow
          have HB := Lib.hid hB
          have HOWN2 := Lib.hid hown
          have HJ2 := Lib.hid (And.intro hsj (And.intro hjn hn200))
          obtain ⟨R, hR⟩ : ∃ R, B.take j = R := ⟨_, rfl⟩
          rw [hR] at hall
          have HALL := Lib.hid hall
          have HR2 := Lib.hid hR
          have HRL := Lib.hid (show R.length = j by rw [← hR, List.length_take, hB]; omega)
          have hs1 : (s2 : Int) ≤ (j : Int) := by omega
          have hs2 : (j : Int) ≤ (nn : Int) := by omega
          have hs3 : (nn : Int) ≤ 200 := by omega
          have hk2' : (k2 : Int) ≤ 2 := by omega
          clear hh hset hrow hB hown hall hR hsj hjn hn200 HJ
          by_cases hlt : k2 < 2
          · have hkl : (k2 : Int) < 2 := by omega
            go_wp2_with fail
            refine (openTwo HSET.out HALL.out H.out).mono ?_
            rintro e w9 ⟨lp2, x9, rfl, h9, hs9, hset9, hnow9⟩
            have H9 := Lib.hid h9
            have HROW9 := Lib.hid (HROW2.out.frame (w' := w9) fun g hg => hs9 g hg)
            have HSET9 := Lib.hid hset9
            have HNOW9 := Lib.hid hnow9
            clear h9 hs9 hset9 hnow9
            go_wp2_with fail
            refine (lenW (n := j) HRL.out H9.out).mono ?_
            rintro e w' ⟨rfl, rfl⟩
            go_wp2_with fail
            refine (lenW (n := j) HRL.out H9.out).mono ?_
            rintro e w' ⟨rfl, rfl⟩
            go_wp2_with fail
            refine (textsW (L := R) rfl H9.out).mono ?_
            rintro e wt ⟨v5, rfl, ho5, hb5⟩
            obtain ⟨a5, cap5, rfl⟩ := (Row.own ho5).len
            have HR5 := Lib.hid (Row.own ho5)
            have HB5 := Lib.hid hb5
            have HT := Lib.hid (H9.out.on hb5)
            clear ho5 hb5
            rw [HRL.out] at HR5 ⊢
            have HD1 := Lib.hid (show decide (j < s2) = false by simp; omega)
            have HD2 := Lib.hid (show decide (nn < j) = false by simp; omega)
            go_wp2_with fail
            try rw [HD1.out]
            try rw [HD2.out]
            go_loopw [150] (fun i wr => ∃ jj : Nat, jj ≤ j ∧ i = .int .i64 jj ∧ Below wt.heap.size wt wr) (fun i _ => j - (intOf i).toNat)
            case atStart => exact ⟨0, Nat.zero_le _, rfl, Below.refl _ _⟩
            case round =>
              rename World => W4
              obtain ⟨jj, hjj, rfl, hbi⟩ := hrel
              by_cases hjl : jj < j
              · obtain ⟨⟨⟨kr, pr⟩, hkpr⟩, hr⟩ : ∃ r, R[jj]? = some r := ⟨_, List.getElem?_eq_getElem (by have := HRL.out; omega)⟩
                have hrB : B[jj]? = some ⟨(kr, pr), hkpr⟩ := by
                  have h1 := HR2.out
                  rw [← h1, List.getElem?_take, if_pos hjl] at hr
                  exact hr
                have hR6 := (HROW9.out.below HB5.out).below hbi
                have hR5 := HR5.out.below hbi
                obtain ⟨g5, c5, e5⟩ : ∃ g5 c5, Value.slice a5 j cap5 = .slice (some ⟨g5, 0, none⟩) j c5 := by
                  rcases hR5.form with ⟨_, h0⟩ | ⟨g, c, he, _⟩
                  · omega
                  · exact ⟨g, c, he⟩
                obtain ⟨g6, c6, e6⟩ : ∃ g6 c6, Value.slice aB nn capB = .slice (some ⟨g6, 0, none⟩) nn c6 := by
                  rcases hR6.form with ⟨_, h0⟩ | ⟨g, c, he, _⟩
                  · omega
                  · exact ⟨g, c, he⟩
                simp only [Value.slice.injEq, true_and] at e5 e6
                obtain ⟨rfl, rfl⟩ := e5
                obtain ⟨rfl, rfl⟩ := e6
                have hS5 := Row.range4 hR5 hr
                have hS6 := Row.range4 hR6 hrB
                dsimp only [recRow] at hS5 hS6
                have HS5 := Lib.hid hS5
                have HSS := Lib.hid (show (W4.alloc (.cells #[.int .u8 (kr : Nat), .string pr, .bool false, .int .i64 0] 38)).drew.rangeAt W4.heap.size 0 [.int .u8 (kr : Nat), .string pr, .bool false, .int .i64 0] ∧ (W4.alloc (.cells #[.int .u8 (kr : Nat), .string pr, .bool false, .int .i64 0] 38)).drew.rangeAt g6 (jj * 4) [.int .u8 (kr : Nat), .string pr, .bool false, .int .i64 0] from
                  ⟨fun q u hq => by rw [Nat.zero_add]; exact (cell_of_row _ _ _ _ _ _ (heap_alloc_new W4 (.cells #[.int .u8 (kr : Nat), .string pr, .bool false, .int .i64 0] 38))).trans (by simpa using hq), fun q u hq => cell_on _ (hS6 q u hq)⟩)
                have HBI := Lib.hid hbi
                have hj0 : (0 : Int) ≤ (jj : Int) := by omega
                have hj1 : (jj : Int) < (j : Int) := by omega
                have hj2 : (jj : Int) < (nn : Int) := by omega
                have hneq := fun w0 => neq_rec (kr : Nat) pr w0
                have hgd := guard38
                clear hR5 hR6 hr hrB hS5 hS6 hbi hjj hjl
                go_wp2_with (first | (refine wpList_load_mid rfl 38 (.tmp 153) rfl g5 (jj * 4) rfl [.int .u8 (kr : Nat), .string pr, .bool false, .int .i64 0] _ HS5.out Try.underlying38 rfl info38r ?_))
                refine wp_region_peel2 (by kernel_rfl) (by simp only [List.dropLast_cons_cons, List.dropLast_singleton]; exact rfl) rfl (by kernel_rfl) ?_
                refine wpAny_of_held (S := fun w' => w'.rangeAt W4.heap.size 0 [.int .u8 (kr : Nat), .string pr, .bool false, .int .i64 0] ∧ w'.rangeAt g6 (jj * 4) [.int .u8 (kr : Nat), .string pr, .bool false, .int .i64 0]) _ _ _ _ ?_
                have hHeld := HSS.out
                refine wpAnyH_take (i := 0) (v := .agg #[.int .u8 (kr : Nat), .string pr, .bool false, .int .i64 0]) rfl (by kernel_rfl) (by kernel_rfl) (by kernel_rfl) (fun _ _ _ h => h) (yieldsIf_load_mid (by rfl) 38 (.tmp 22) rfl W4.heap.size 0 (by simp [Act.eval]) [.int .u8 (kr : Nat), .string pr, .bool false, .int .i64 0] _ (fun W hW => hW.1) Try.underlying38 rfl info38r) (by assumption) ?_
                try simp only [Act.put, List.getElem_toArray, List.getElem_cons_zero, List.getElem_cons_succ, List.setIfInBounds_toArray, List.set_cons_zero, List.set_cons_succ]
                refine wpAnyH_take (i := 1) (v := ?v2) rfl (by kernel_rfl) (by kernel_rfl) (by kernel_rfl) (fun _ _ _ h => h) (Or.inl ⟨by rfl, ?hy2⟩) (by assumption) ?rest2
                case hy2 => (intro w0 hSw; (try dsimp only at hSw); go_simp; try with_reducible rfl)
                try simp only [Act.put, List.getElem_toArray, List.getElem_cons_zero, List.getElem_cons_succ, List.setIfInBounds_toArray, List.set_cons_zero, List.set_cons_succ]
                refine wpAnyH_take (i := 2) (v := ?v3) rfl (by kernel_rfl) (by kernel_rfl) (by kernel_rfl) (fun _ _ _ h => h) (Or.inl ⟨by rfl, ?hy3⟩) (by assumption) ?rest3
                case hy3 => (intro w0 hSw; (try dsimp only at hSw); go_simp; try with_reducible rfl)
                try simp only [Act.put, List.getElem_toArray, List.getElem_cons_zero, List.getElem_cons_succ, List.setIfInBounds_toArray, List.set_cons_zero, List.set_cons_succ]
                refine wpAnyH_take (i := 3) (v := ?v4) rfl (by kernel_rfl) (by kernel_rfl) (by kernel_rfl) (fun _ _ _ h => h) (Or.inl ⟨by rfl, ?hy4⟩) (by assumption) ?rest4
                case hy4 => (intro w0 hSw; (try dsimp only at hSw); go_simp; try with_reducible rfl)
                try simp only [Act.put, List.getElem_toArray, List.getElem_cons_zero, List.getElem_cons_succ, List.setIfInBounds_toArray, List.set_cons_zero, List.set_cons_succ]
                refine wpAnyH_take (i := 4) (v := .agg #[.int .u8 (kr : Nat), .string pr, .bool false, .int .i64 0]) rfl (by kernel_rfl) (by kernel_rfl) (by kernel_rfl) (fun _ _ _ h => h) (yieldsIf_load_mid (by rfl) 38 (.tmp 158) rfl g6 (jj * 4) (by simp [Act.eval]) [.int .u8 (kr : Nat), .string pr, .bool false, .int .i64 0] _ (fun W hW => hW.2) Try.underlying38 rfl info38r) (by assumption) ?_
                try simp only [Act.put, List.getElem_toArray, List.getElem_cons_zero, List.getElem_cons_succ, List.setIfInBounds_toArray, List.set_cons_zero, List.set_cons_succ]
                refine wpAnyH_done (by kernel_rfl) ?_ _
                change wpList _ _ _ _ _ _
                clear hHeld
                go_wp2_with fail
                go_roundw
                case rel => exact ⟨jj + 1, by omega, by go_num, below_dr' (HBI.out.alloc HBI.out.size _)⟩
                case measure => simp [intOf]; omega
              · obtain rfl : jj = j := by omega
                have hnl : ¬ ((jj : Int) < (jj : Int)) := by omega
                have HBI := Lib.hid hbi
                have H4 := Lib.hid (HT.out.on hbi)
                have HLQ := Lib.hid (fun nq => (lenW (w := W4.drewN nq) (n := jj) HRL.out (H4.out.on (below_drewN (Below.refl _ _) nq))).mono (R' := fun e w' => e = .returned (.int .i64 (jj : Nat)) ∧ w' = W4.drewN nq) fun e w' h => ⟨h.1, h.2.symm⟩)
                have HROW4 := Lib.hid ((HROW9.out.below HB5.out).below hbi)
                have hsl := fun w' => slice_row2 HROW4.out (show jj ≤ nn by omega) w'
                have HRC := Lib.hid (row_cut2 HROW4.out (show jj ≤ nn by omega))
                rw [HR2.out] at HRC
                clear hbi hjl hjj
                go_wp2_with fail
                go_quiet ((go_at_call 10; exact Calls.quiet_of_same (HLQ.out _)))
                go_wp2_with fail
                refine (crashBack HSET9.out (H4.out.on (below_drewN (Below.refl _ _) _)).disk).mono ?_
                rintro e w12 ⟨rfl, h12, hs12⟩
                have HEND := Lib.hid (show RRel w (.slice aB jj capB) (.int .i64 (jj : Nat)) (.int .i64 ((k2 + 1 : Nat) : Int)) w12 from
                  ⟨x9.crash 0 0, R, k2 + 1, jj, jj, jj, capB, aB, by omega, rfl, rfl, rfl, hereDrop (w' := w12) h12 fun g hg => by rw [own_len aB nn capB jj capB]; exact hg, Settled.crash _ _ _, HRC.out.frame (w' := w12) fun g hg => hs12 g (by rw [own_len aB nn capB jj capB]; exact hg), HRL.out,
                    fun g hg => HOWN2.out g (by rw [own_len aB nn capB jj capB]; exact hg), Nat.le_refl _, Nat.le_refl _, by have := HJ2.out.2.1; have := HJ2.out.2.2; omega, by rw [crash_again HSET9.out, HNOW9.out, all_take (fine_all HALL.out), ← HRL.out, List.take_length]⟩)
                clear h12 hs12 hsl
                go_wp2_with fail
                go_roundw
                case rel => exact HEND.out
                case measure => simp [intOf]; omega
          · have hkl : (2 : Int) ≤ (k2 : Int) := by omega
            clear hlt
            go_wp2_with fail
            refine (works_any _).mono ?_
            rintro e w' ⟨rfl, hb⟩
            have H2 := Lib.hid (H.out.on hb); clear hb
            go_wp2_with fail
            go_ret
            exact ⟨rfl, H2.out.below⟩
end Go.Proofs.Ytbnnbaoimidfnaa.lg

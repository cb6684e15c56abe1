/- What Line answers of any expression. -/
import Derived.Test.YtffhmbiamkbchaaDoorTlE
import Derived.Test.YtffhmbiamkbchaaDoorTlB
import Derived.Test.YtffhmbiamkbchaaDoorExQ
import Derived.Deep.RegionWith
namespace Go.Proofs.YtffhmbiamkbchaaDoor.exp
set_option linter.unusedSimpArgs false
set_option linter.unusedVariables false
open Go.RowKit nam lex

def lineS (x : Ex) : ByteArray := if good FM x 1 = true ∧ ¬ 400 < x.line.length then textOf x.line else ⟨#[]⟩
def lineC (x : Ex) : Int := if good FM x 1 = true then (if 400 < x.line.length then 110 else 0) else 2
theorem tab_up {B B' : Nat} {w w1 : World} (h : Tab B w) (hb : Below B w w1) (hB : B ≤ B') : Tab B' w1 := fun w' h' => h w' (hb.trans (h'.mono hB))
theorem none_app (s : ByteArray) : (⟨#[]⟩ : ByteArray) ++ s = s := by
  apply byteArray_ext
  rw [append_toList]; rfl
theorem line_pos {x : Ex} (hf : Fit x) : 1 ≤ x.line.length := by
  rw [line_eq]
  unfold lineO
  split
  · have := (digR_facts x.n.toNat).2.1
    cases h : digR x.n.toNat with
    | nil => exact absurd h this
    | cons a l => simp
  split
  · decide
  split
  · decide
  split
  · decide
  · cases h1 : aheads x.op with
    | nil => simp [weave]
    | cons s ss =>
      cases h2 : lines x.args with
      | nil => simp [weave]
      | cons a al =>
        rw [weave, List.length_append]
        have : s ≠ [] := by
          intro e
          subst e
          unfold aheads at h1
          repeat' split at h1
          all_goals (injection h1 with h3 h4; cases h3)
        cases s with
        | nil => exact absurd rfl this
        | cons c s => simp; omega
set_option maxRecDepth 1000000 in
theorem line_no {x : Ex} {v : Value} {F : Nat → Prop} {w : World} (hx : Lies w F v x.args) (hs : x.size ≤ 1000000) (hg : good FM x 1 = false) :
    Calls Tryd.prog 12 #[exV x v] w fun e w' => e = .returned (.tuple #[.string (lineS x), .int .i64 (lineC x)]) ∧ Below w.heap.size w w' := by
  have eS : lineS x = ⟨#[]⟩ := by unfold lineS; rw [hg, if_neg (by simp)]
  have eC : lineC x = 2 := by unfold lineC; rw [hg, if_neg (by simp)]
  rw [eS, eC]
  obtain ⟨W, hW⟩ : ∃ W, w.alloc (.cells #[.int .u8 (x.op : Int), .int .i64 x.n, v] 27) = W := ⟨_, rfl⟩
  obtain ⟨N, hN⟩ : ∃ N, w.heap.size = N := ⟨_, rfl⟩
  have hbW : Below w.heap.size w W := by rw [← hW]; exact (Below.refl _ _).alloc (Nat.le_refl _) _
  have hh : W.heap[N]? = some (.cells #[.int .u8 (x.op : Int), .int .i64 x.n, v] 27 (0, 0)) := by rw [← hW]; exact heap_last hN.symm
  have c0 := cell_of (o := 0) hh rfl
  have c1 := cell_of (o := 1) hh rfl
  have c2 := cell_of (o := 2) hh rfl
  have HM := Lib.hid (may_any (hx.under hbW) hs)
  rw [hg] at HM
  unfold exV at HM ⊢
  have HB := Lib.hid hbW
  clear hx hg eS eC hh hbW
  go_enter Tryd.func12, Tryd.ntmps12
  go_wp2_with fail
  refine HM.out.mono ?_
  rintro e w1 ⟨rfl, hb1⟩
  have HB1 := Lib.hid (HB.out.trans (hb1.mono HB.out.size))
  clear hb1
  go_wp2_with fail
  go_ret2
  exact ⟨rfl, HB1.out⟩
/-- What is there when the counter is made. -/
structure Lc (x : Ex) (w w1 w2 : World) (N B : Nat) : Prop where
  below : Below w.heap.size w w1
  low : w.heap.size ≤ B
  at_ : At w2 (fun k => k < B) N 0 x
  tab : Tab B w2
  here : B ≤ w2.heap.size
  two : Below w1.heap.size w1 w2
  B : w1.heap.size = B
theorem Lc.of {x : Ex} {v : Value} {w W w1 w2 : World} {N B : Nat} {o : Obj} {F : Nat → Prop} (htab : Tab w.heap.size w) (hx : Lies w F v x.args) (hW : Below w.heap.size w W) (hN : w.heap.size = N)
    (hh : W.heap[N]? = some (.cells #[.int .u8 (x.op : Int), .int .i64 x.n, v] 27 (0, 0))) (hb : Below W.heap.size W w1) (hB : w1.heap.size = B) (h2 : w1.alloc o = w2) : Lc x w w1 w2 N B := by
  have hlt := (Array.getElem?_eq_some_iff.1 hh).1
  have hwz := hW.size
  have hbz := hb.size
  have h12 : Below w1.heap.size w1 w2 := by rw [← h2]; exact (Below.refl _ _).alloc (Nat.le_refl _) _
  have hw1 : Below w.heap.size w w1 := hW.trans (hb.mono hwz)
  have hw2 : Below w.heap.size w w2 := hw1.trans (h12.mono (by omega))
  refine ⟨hw1, by omega, ?_, tab_up htab hw2 (by omega), by rw [← hB]; exact h12.size, h12, hB⟩
  have hN2 : w2.heap[N]? = some (.cells #[.int .u8 (x.op : Int), .int .i64 x.n, v] 27 (0, 0)) := ((h12.block N (by omega)).trans (hb.block N hlt)).trans hh
  exact ⟨_, v, by show N < B; omega, hN2, rfl, rfl, rfl, (hx.here.frame (fun b c hk _ => hw2.block b hk.2)).mono (fun b hk => by show b < B; omega)⟩
theorem Lc.next {x : Ex} {w w1 w2 w3 w4 : World} {N B B' : Nat} {o : Obj} (h : Lc x w w1 w2 N B) (hs : Step B w2 w3) (hB : w3.heap.size = B') (h2 : w3.alloc o = w4) : Lc x w w3 w4 N B' := by
  obtain ⟨a1, a2, a3, a4, a5, a6, a7⟩ := h
  have h34 : Below w3.heap.size w3 w4 := by rw [← h2]; exact (Below.refl _ _).alloc (Nat.le_refl _) _
  have hz := hs.below.size
  have h23 : Below B w2 w4 := hs.below.trans (h34.mono (by omega))
  refine ⟨(a1.trans (a6.mono (by omega))).trans (hs.below.mono a2), by omega, ?_, tab_up a4 h23 (by omega), by rw [← hB]; exact h34.size, h34, hB⟩
  exact (a3.frame (fun b c hk _ => h23.block b hk)).mono (fun b hk => by have : b < B := hk; show b < B'; omega)
set_option maxHeartbeats 4000000 in
set_option maxRecDepth 1000000 in
theorem line_yes {x : Ex} {v : Value} {F : Nat → Prop} {w : World} (hx : Lies w F v x.args) (hs : x.size ≤ 1000000) (hg : good FM x 1 = true) (hn : Num x) (htab : Tab w.heap.size w) :
    Calls Tryd.prog 12 #[exV x v] w fun e w' => e = .returned (.tuple #[.string (lineS x), .int .i64 (lineC x)]) ∧ Below w.heap.size w w' := by
  have hf := ((good_FM x 1).1 hg).2
  obtain ⟨hasc, htold⟩ := told_any x hf hn
  obtain ⟨t1, t2, t3⟩ := htold ⟨#[]⟩
  have z0 : (⟨#[]⟩ : ByteArray).size = 0 := rfl
  rw [z0] at t1 t2 t3
  obtain ⟨W, hW⟩ : ∃ W, w.alloc (.cells #[.int .u8 (x.op : Int), .int .i64 x.n, v] 27) = W := ⟨_, rfl⟩
  obtain ⟨N, hN⟩ : ∃ N, w.heap.size = N := ⟨_, rfl⟩
  have hbW : Below w.heap.size w W := by rw [← hW]; exact (Below.refl _ _).alloc (Nat.le_refl _) _
  have hh : W.heap[N]? = some (.cells #[.int .u8 (x.op : Int), .int .i64 x.n, v] 27 (0, 0)) := by rw [← hW]; exact heap_last hN.symm
  have c0 := cell_of (o := 0) hh rfl
  have c1 := cell_of (o := 1) hh rfl
  have c2 := cell_of (o := 2) hh rfl
  have HM := Lib.hid (may_any (hx.under hbW) hs)
  rw [hg] at HM
  have HL : Hid (∀ w1 w2 B o, Below W.heap.size W w1 → w1.heap.size = B → w1.alloc o = w2 → Lc x w w1 w2 N B) := Lib.hid fun w1 w2 B o h1 h2 h3 => Lc.of htab hx hbW hN hh h1 h2 h3
  have HT : Hid (∀ {B : Nat} {t : TypeId} {r : Value} {st : ByteArray → World → Prop}, Hears B t r st → ∀ {w : World}, At w (fun k => k < B) N 0 x → st ⟨#[]⟩ w → Tab B w → Calls Tryd.prog 19 #[.pointer (some ⟨N, 0, none⟩), .iface t r] w fun e w' => e = .returned (.tuple #[]) ∧ st (x.tell ⟨#[]⟩) w' ∧ Step B w w') :=
    Lib.hid fun H w h1 h2 h3 => tell_any x hf hn H h1 h2 h3 (by rw [z0]; omega)
  have HB := Lib.hid hbW
  unfold exV at HM ⊢
  have hpos := line_pos hf
  have eS : lineS x = if 400 < x.line.length then ⟨#[]⟩ else textOf x.line := by
    unfold lineS
    by_cases h : 400 < x.line.length
    · rw [if_neg (by simp [h]), if_pos h]
    · rw [if_pos ⟨hg, h⟩, if_neg h]
  have eC : lineC x = if 400 < x.line.length then 110 else 0 := by unfold lineC; rw [if_pos hg]
  rw [eS, eC]
  obtain ⟨T, hT⟩ : ∃ T, x.tell ⟨#[]⟩ = T := ⟨_, rfl⟩
  rw [hT] at t1 t2 t3
  simp only [hT] at HT
  by_cases hw : 400 < x.line.length
  · rw [if_pos hw, if_pos hw]
    have hwide : 400 < T.size := t2 (by omega)
    have HWI := Lib.hid hwide
    clear t1 t2 t3 hw hf hn hg hx htab hh hbW hpos eS eC htold hasc hwide hT
    go_enter Tryd.func12, Tryd.ntmps12
    go_wp2_with fail
    refine HM.out.mono ?_
    rintro e w1 ⟨rfl, hb1⟩
    obtain ⟨B, hB⟩ : ∃ B, w1.heap.size = B := ⟨_, rfl⟩
    obtain ⟨w2, hw2⟩ : ∃ w2, w1.alloc (.cells #[.int .i64 0] 39) = w2 := ⟨_, rfl⟩
    have hlc := HL.out w1 w2 B _ hb1 hB hw2
    have hcnt : Cnt B B ⟨#[]⟩ w2 := ⟨Nat.le_refl _, hlc.here, by rw [← hw2]; exact heap_last hB.symm⟩
    have HT1 := Lib.hid (HT.out (cnt_hears B B) hlc.at_ hcnt hlc.tab)
    have HLC := Lib.hid hlc
    clear hlc hcnt hb1
    go_wp2_with fail
    refine HT1.out.mono ?_
    rintro e w3 ⟨rfl, h3, hs3⟩
    have HWD := Lib.hid (wide_at (cnt_hears B B) h3)
    rw [decide_eq_true HWI.out] at HWD
    have HZ : Hid (Below w.heap.size w w3) := Lib.hid ((HLC.out.below.trans (HLC.out.two.mono (by have := HLC.out.low; have := HLC.out.B; omega))).trans (hs3.below.mono HLC.out.low))
    clear h3 hs3
    go_wp2_with fail
    refine HWD.out.mono ?_
    rintro e w4 ⟨rfl, rfl⟩
    go_wp2_with fail
    go_ret2
    exact ⟨rfl, HZ.out⟩
  · rw [if_neg hw, if_neg hw]
    have hfits : T = textOf x.line := by rw [t1 (by omega), none_app]
    have hsz : T.size = x.line.length := by rw [hfits, asc_size hasc]
    rw [← hfits]
    have hnar : ¬ 400 < T.size := by omega
    have HNW := Lib.hid hnar
    have HSZ : Hid (T.size ≠ 0) := Lib.hid (by omega)
    obtain ⟨L, hL⟩ : ∃ L, T.size = L := ⟨_, rfl⟩
    have hL4 : L ≤ 400 := by omega
    have HLL := Lib.hid hL
    clear t1 t2 t3 hw hf hn hg hx htab hh hbW hpos eS eC htold hasc hnar hT hfits hsz hL
    go_enter Tryd.func12, Tryd.ntmps12
    go_wp2_with fail
    refine HM.out.mono ?_
    rintro e w1 ⟨rfl, hb1⟩
    obtain ⟨B, hB⟩ : ∃ B, w1.heap.size = B := ⟨_, rfl⟩
    obtain ⟨w2, hw2⟩ : ∃ w2, w1.alloc (.cells #[.int .i64 0] 39) = w2 := ⟨_, rfl⟩
    have hlc := HL.out w1 w2 B _ hb1 hB hw2
    have hcnt : Cnt B B ⟨#[]⟩ w2 := ⟨Nat.le_refl _, hlc.here, by rw [← hw2]; exact heap_last hB.symm⟩
    have HT1 := Lib.hid (HT.out (cnt_hears B B) hlc.at_ hcnt hlc.tab)
    have HLC := Lib.hid hlc
    clear hlc hcnt hb1
    go_wp2_with fail
    refine HT1.out.mono ?_
    rintro e w3 ⟨rfl, h3, hs3⟩
    have HWD := Lib.hid (wide_at (cnt_hears B B) h3)
    rw [decide_eq_false HNW.out] at HWD
    obtain ⟨B', hB'⟩ : ∃ B, w3.heap.size = B := ⟨_, rfl⟩
    obtain ⟨w4, hw4⟩ : ∃ w4, w3.alloc (.cells #[.pointer none, .slice none 0 0] 49) = w4 := ⟨_, rfl⟩
    have hlc2 := HLC.out.next hs3 hB' hw4
    have HLC2 := Lib.hid hlc2
    have HCL := Lib.hid (cnt_len ((h3.keep hlc2.two).keep (Below.refl _ _).drew))
    rw [HLL.out] at HCL
    have hfr : w4.heap[B']? = some (.cells #[.pointer none, .slice none 0 0] 49 (0, 0)) := by rw [← hw4]; exact heap_last hB'.symm
    have HG := Lib.hid (wrt_grow (B := B') (b := B') (w := w4.drew) L (Nat.le_refl _) hfr hlc2.here (by omega))
    have HWW : Hid (Below B' w4 w4.drew) := Lib.hid (Below.refl _ _).drew
    clear h3 hs3 hlc2 hfr
    go_wp2_with fail
    refine HWD.out.mono ?_
    rintro e w3' ⟨rfl, rfl⟩
    go_wp2_with fail
    go_region_with (first
      | (go_at_call 22; refine HCL.out.mono ?_; rintro e w5 ⟨rfl, rfl⟩)
      | (go_at_call 21; refine HG.out.mono ?_; rintro e w6 ⟨rfl, hba, hb6⟩))
    all_goals
      have h46 : Below B' w4 w6 := HWW.out.trans hb6
      have hwr : Wrt B' B' ⟨#[]⟩ w6 := ⟨Nat.le_trans HLC2.out.here h46.size, .inr hba⟩
      have HT2 := Lib.hid (HT.out (wrt_hears B' B') (HLC2.out.at_.frame (fun b c hk _ => h46.block b hk)) hwr (tab_up HLC2.out.tab h46 (Nat.le_refl _)))
      have H46 := Lib.hid h46
      clear h46 hwr hba hb6
      go_wp2_with fail
      refine HT2.out.mono ?_
      rintro e w7 ⟨rfl, h7, hs7⟩
      have HST := Lib.hid (wrt_string h7 HSZ.out)
      have H47 := Lib.hid (H46.out.trans hs7.below)
      clear h7 hs7
      go_wp2_with fail
      refine HST.out.mono ?_
      rintro e w8 ⟨rfl, hb8⟩
      have HZ : Hid (Below w.heap.size w w8) := Lib.hid ((HLC2.out.below.trans (HLC2.out.two.mono (by have := HLC2.out.low; have := HLC2.out.B; omega))).trans ((H47.out.trans hb8).mono HLC2.out.low))
      clear hb8
      go_wp2_with fail
      go_ret2
      exact ⟨rfl, HZ.out⟩
end Go.Proofs.YtffhmbiamkbchaaDoor.exp

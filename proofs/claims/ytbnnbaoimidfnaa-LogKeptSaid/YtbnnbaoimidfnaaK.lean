/- LogSure returns true. -/
import Derived.Test.YtbnnbaoimidfnaaJ
namespace Go.Proofs.Ytbnnbaoimidfnaa.lg
set_option linter.unusedSimpArgs false
set_option linter.unusedVariables false
open Go.RowKit byt frm dsk

section
variable {x x2 : D} {y y2 : Lg} {E : Int}
theorem chg_loose {c : Chg} (h : x.chg c = (E, x2)) : x2.loose.length ≤ x.loose.length + 1 := by
  unfold D.chg at h
  split at h
  · obtain ⟨rfl, rfl⟩ := Prod.mk.inj h
    show (x.loose ++ [c]).length ≤ _
    rw [List.length_append]; exact Nat.le_refl _
  · have := D.op_loose x; rw [h] at this
    rw [show x2.loose = x.loose from this]; omega
theorem append_loose {i : Int} {s : ByteArray} (h : x.append i s = (E, x2)) : x2.loose.length ≤ x.loose.length + 1 := by
  unfold D.append at h
  split at h
  · obtain ⟨rfl, rfl⟩ := Prod.mk.inj h; omega
  split at h
  · obtain ⟨rfl, rfl⟩ := Prod.mk.inj h; omega
  split at h
  · obtain ⟨rfl, rfl⟩ := Prod.mk.inj h; omega
  · exact chg_loose h
theorem cut_loose {i n : Int} (h : x.cut i n = (E, x2)) : x2.loose.length ≤ x.loose.length + 1 := by
  unfold D.cut at h
  split at h
  · obtain ⟨rfl, rfl⟩ := Prod.mk.inj h; omega
  split at h
  · obtain ⟨rfl, rfl⟩ := Prod.mk.inj h; omega
  split at h
  · obtain ⟨rfl, rfl⟩ := Prod.mk.inj h; omega
  · exact chg_loose h
theorem sync_loose (h : x.sync = (E, x2)) : x2.loose.length ≤ x.loose.length := by
  unfold D.sync at h
  split at h
  · obtain ⟨rfl, rfl⟩ := Prod.mk.inj h; omega
  split at h
  · obtain ⟨rfl, rfl⟩ := Prod.mk.inj h; exact Nat.zero_le _
  · have := D.op_loose x; rw [h] at this
    rw [show x2.loose = x.loose from this]; omega
theorem power_loose {n : Int} (h : x.power n = (E, x2)) : x2.loose = x.loose := by
  unfold D.power at h
  split at h
  · obtain ⟨rfl, rfl⟩ := Prod.mk.inj h; rfl
  split at h
  · obtain ⟨rfl, rfl⟩ := Prod.mk.inj h; rfl
  · obtain ⟨rfl, rfl⟩ := Prod.mk.inj h; rfl
theorem putL_cases {r : Fr} (h : putL x y r = (E, x2, y2)) : x.append y.file (fb r) = (E, x2) ∧ ((E = 0 ∧ y2 = { y with recs := y.recs ++ [r], loose := true }) ∨ (E ≠ 0 ∧ y2 = y)) := by
  obtain ⟨E1, x1, h1⟩ : ∃ E1 x1, x.append y.file (fb r) = (E1, x1) := ⟨_, _, rfl⟩
  unfold putL at h
  rw [h1] at h ⊢
  split at h
  · rename_i h0
    simp only [Prod.mk.injEq] at h
    obtain ⟨rfl, rfl, rfl⟩ := h
    exact ⟨by rw [← h0], .inl ⟨rfl, rfl⟩⟩
  · rename_i h0
    simp only [Prod.mk.injEq] at h
    obtain ⟨rfl, rfl, rfl⟩ := h
    exact ⟨rfl, .inr ⟨h0, rfl⟩⟩
theorem putR_cases {k : Nat} {p : ByteArray} (h : putR x y k p = (E, x2, y2)) : (∃ (hk : 0 < k) (hp : k < 256 ∧ p.size ≤ 65536), putL x y ⟨(k, p), hp⟩ = (E, x2, y2)) ∨ (E = 2 ∧ x2 = x ∧ y2 = y ∧ ¬ (0 < k ∧ k < 256 ∧ p.size ≤ 65536)) := by
  unfold putR at h
  split at h
  · rename_i h0
    exact .inl ⟨h0.1, h0.2, h⟩
  · rename_i h0
    simp only [Prod.mk.injEq] at h
    obtain ⟨rfl, rfl, rfl⟩ := h
    exact .inr ⟨rfl, rfl, rfl, h0⟩
theorem putR_loose {k : Nat} {p : ByteArray} (h : putR x y k p = (E, x2, y2)) : x2.loose.length ≤ x.loose.length + 1 := by
  rcases putR_cases h with ⟨_, _, h⟩ | ⟨_, rfl, _⟩
  · exact append_loose (putL_cases h).1
  · omega
theorem syncL_cases (h : syncL x y = (E, x2, y2)) : (y.loose = false ∧ E = 0 ∧ x2 = x ∧ y2 = y) ∨ (y.loose = true ∧ x.sync = (E, x2) ∧ ((E = 0 ∧ y2 = { y with sure := y.recs.length, loose := false }) ∨ (E ≠ 0 ∧ y2 = y))) := by
  obtain ⟨E1, x1, h1⟩ : ∃ E1 x1, x.sync = (E1, x1) := ⟨_, _, rfl⟩
  unfold syncL at h
  rw [h1] at h ⊢
  split at h
  · rename_i h0
    simp only [Prod.mk.injEq] at h
    obtain ⟨rfl, rfl, rfl⟩ := h
    exact .inl ⟨h0, rfl, rfl, rfl⟩
  · rename_i hl
    refine .inr ⟨by simpa using hl, ?_⟩
    split at h
    · rename_i h0
      simp only [Prod.mk.injEq] at h
      obtain ⟨rfl, rfl, rfl⟩ := h
      exact ⟨by rw [← h0], .inl ⟨rfl, rfl⟩⟩
    · rename_i h0
      simp only [Prod.mk.injEq] at h
      obtain ⟨rfl, rfl, rfl⟩ := h
      exact ⟨rfl, .inr ⟨h0, rfl⟩⟩
theorem syncL_loose (h : syncL x y = (E, x2, y2)) : x2.loose.length ≤ x.loose.length := by
  rcases syncL_cases h with ⟨_, _, rfl, _⟩ | ⟨_, h, _⟩
  · exact Nat.le_refl _
  · exact sync_loose h
/-- Nothing was changed since the last Sync just where all is sure. -/
def Jy (y : Lg) : Prop := (y.loose = false ∧ y.sure = y.recs.length) ∨ (y.loose = true ∧ y.sure < y.recs.length)
theorem putR_sure {k : Nat} {p : ByteArray} (h : putR x y k p = (E, x2, y2)) (hj : Jy y) (hs : y.sure ≤ y.recs.length) : y2.sure = y.sure ∧ Jy y2 := by
  rcases putR_cases h with ⟨_, _, h⟩ | ⟨_, _, rfl, _⟩
  · rcases (putL_cases h).2 with ⟨_, rfl⟩ | ⟨_, rfl⟩
    · exact ⟨rfl, .inr ⟨rfl, by show y.sure < (y.recs ++ [_]).length; rw [List.length_append]; exact Nat.lt_succ_of_le hs⟩⟩
    · exact ⟨rfl, hj⟩
  · exact ⟨rfl, hj⟩
theorem syncL_sure (h : syncL x y = (E, x2, y2)) (hj : Jy y) : Jy y2 ∧ (E = 0 ↔ y2.sure = y2.recs.length) := by
  rcases syncL_cases h with ⟨h0, rfl, _, rfl⟩ | ⟨h0, _, ⟨rfl, rfl⟩ | ⟨hE, rfl⟩⟩
  · refine ⟨hj, ⟨fun _ => ?_, fun _ => rfl⟩⟩
    rcases hj with ⟨_, h⟩ | ⟨h, _⟩
    · exact h
    · rw [h0] at h; cases h
  · exact ⟨.inl ⟨rfl, rfl⟩, ⟨fun _ => rfl, fun _ => rfl⟩⟩
  · refine ⟨hj, ⟨fun h => absurd h hE, fun h => ?_⟩⟩
    rcases hj with ⟨h', _⟩ | ⟨_, h'⟩
    · rw [h0] at h'; cases h'
    · omega
end
theorem box4 {w : World} {b : Nat} {r : Rc} (h : w.heap[b]? = some (.cells #[.int .u8 (r.k : Nat), .string r.t, .bool r.s, .int .i64 r.c] 38 (0, 0))) :
    w.cell? ⟨b, 0, none⟩ = some (.int .u8 (r.k : Nat)) ∧ w.cell? ⟨b, 1, none⟩ = some (.string r.t) ∧ w.cell? ⟨b, 2, none⟩ = some (.bool r.s) ∧ w.cell? ⟨b, 3, none⟩ = some (.int .i64 r.c) :=
  ⟨by rw [cell_of_row _ _ _ _ _ _ h]; rfl, by rw [cell_of_row _ _ _ _ _ _ h]; rfl, by rw [cell_of_row _ _ _ _ _ _ h]; rfl, by rw [cell_of_row _ _ _ _ _ _ h]; rfl⟩
theorem fresh_open (f : Nat) : openD (D.fresh 4194304) f = D.fresh 4194304 ∧ openL (D.fresh 4194304) f = ⟨f, [], 0, false⟩ := ⟨rfl, rfl⟩
theorem newBig (w : World) : Calls Try.prog 7 #[.int .i64 4194304] w fun e w' => e = .returned (.tuple #[ptr w.heap.size 0, .int .i64 0]) ∧ HereW w.heap.size w w.heap.size (D.fresh 4194304) (fun _ => False) w' := newW 4194304 (by decide) (by decide) w _ (fun _ h => h.elim)
theorem openBig {B d : Nat} {w0 w : World} (f : Nat) (hf : f < 16) (hx : HereW B w0 d (D.fresh 4194304) (fun _ => False) w) : Calls Try.prog 8 #[ptr d 0, .int .i64 f] w fun e w' => ∃ l, e = .returned (.tuple #[ptr l 0, .int .i64 0]) ∧ LogW B w0 l d (D.fresh 4194304) ⟨f, [], 0, false⟩ (fun _ => False) w' :=
  (openW (Settled.fresh 4194304) hf hx).mono fun e w' ⟨l, he, h, _⟩ => ⟨l, he, h⟩
def SureRel (w : World) (lp d : Nat) (l : List Rc) (i : Value) (wr : World) : Prop :=
  ∃ (k : Nat) (x : D) (y : Lg), k ≤ l.length ∧ i = .int .i64 k ∧ LogW w.heap.size w lp d x y (fun _ => False) wr ∧ Jy y ∧ x.loose.length ≤ k
theorem new_box {B l d : Nat} {w0 w : World} {x : D} {y : Lg} {K : Nat → Prop} (h : LogW B w0 l d x y K w) (o : Obj) : LogW B w0 l d x y (fun k => k = w.heap.size ∨ K k) (w.alloc o) := by
  refine h.own ((Below.refl _ w).alloc (Nat.le_refl _) o) fun k hk => ?_
  rcases hk with rfl | hk
  · exact ⟨.inr (Nat.le_refl _), by simp⟩
  · exact ⟨.inl hk, by have := h.lt hk; simp; omega⟩
theorem drop_box {B l d : Nat} {w0 w : World} {x : D} {y : Lg} {K K' : Nat → Prop} (h : LogW B w0 l d x y K w) (hK : ∀ k, K' k → K k) : LogW B w0 l d x y K' w :=
  h.own (Below.refl _ w) fun k hk => ⟨.inl (hK k hk), h.lt (hK k hk)⟩
theorem nat_ne {a b : Nat} (h : a ≠ b) : ((a : Int) == (b : Int)) = false := by simp; omega
theorem nat_eq {a b : Nat} (h : a = b) : ((a : Int) == (b : Int)) = true := by simp; omega
theorem int_ne {a : Int} (h : a ≠ 0) : (a == 0) = false := by simp [h]
set_option maxHeartbeats 1600000 in
set_option maxRecDepth 100000 in
theorem law_sure (l : List Rc) (a : Option Addr) (cap : Nat) (n : Int) (w : World) (hr : Rcs w w.heap.size a l) (hl : l.length ≤ cap) (hc : cap ≤ 9223372036854775807) (hf : ∀ p ∈ l, p.fit) (hn : fitI n) :
    Calls Try.prog 6 #[.slice a l.length cap, .int .i64 n] w fun e w' => e = .returned (.bool true) ∧ Below w.heap.size w w' := by
  by_cases hbig : 100 < l.length
  · have hbig' : (100 : Int) < (l.length : Int) := by omega
    clear hr hl hf hbig
    go_enter Try.func6, Try.ntmps6
    go_wp2_with fail
    refine (works_any _).mono ?_
    rintro e w' ⟨rfl, hb⟩
    have HB := Lib.hid hb; clear hb
    go_wp2_with fail
    go_ret
    exact ⟨rfl, HB.out⟩
  · have hbig' : (l.length : Int) ≤ 100 := by omega
    have HR := Lib.hid hr
    have HF := Lib.hid hf
    have HN := Lib.hid hn
    clear hr hf hbig hn
    go_enter Try.func6, Try.ntmps6
    go_wp2_with fail
    refine (newBig w).mono ?_
    rintro e a1 ⟨rfl, h⟩
    have H := Lib.hid h; clear h
    go_wp2_with fail
    refine (openBig 9 (by decide) H.out).mono ?_
    rintro e a2 ⟨lp, rfl, h⟩
    have H := Lib.hid h; clear h
    go_wp2_with fail
    obtain ⟨E, x2, hp⟩ : ∃ E x2, (D.fresh 4194304).power n = (E, x2) := ⟨_, _, rfl⟩
    have HP := Lib.hid hp; clear hp
    refine (powerW HP.out HN.out.2 H.out).mono ?_
    rintro e a3 ⟨rfl, h, -⟩
    have H := Lib.hid h; clear h
    go_wp2_with fail
    go_loopw [32] (fun i wr => SureRel w lp w.heap.size l i wr) (fun i _ => l.length - (intOf i).toNat)
    case atStart => exact ⟨0, x2, _, Nat.zero_le _, rfl, H.out, .inl ⟨rfl, rfl⟩, by rw [power_loose HP.out]; decide⟩
    case round =>
      obtain ⟨k, x, y, hk, rfl, hlog, hj, hlo⟩ := hrel
      have HL := Lib.hid hlog
      have HJ := Lib.hid hj
      have HO := Lib.hid hlo
      clear hlog hj hlo
      by_cases hlt : k < l.length
      · obtain ⟨b, o, rfl, hbl, hcs⟩ := HR.out (by rintro rfl; simp at hlt)
        obtain ⟨p, ep⟩ : ∃ p, l.getD k noRc = p := ⟨_, rfl⟩
        have hck : wr.rangeAt b (o + k * 4) p.cells := by
          intro j v hv
          rw [← ep] at hv
          exact (HL.out.below.cell (p := ⟨b, o + k * 4 + j, none⟩) hbl).trans (hcs k hlt j v hv)
        have hfit : p.fit := by
          rw [← ep, List.getD_eq_getElem?_getD, List.getElem?_eq_getElem hlt]
          exact HF.out _ (List.getElem_mem hlt)
        obtain ⟨hp1, hp2, hp3⟩ := hfit
        have HC := Lib.hid hck
        have H1 := Lib.hid (new_box HL.out (.cells #[.int .u8 (p.k : Nat), .string p.t, .bool p.s, .int .i64 p.c] 38))
        clear hcs hck ep
        have hkl : (k : Int) < (l.length : Int) := by omega
        by_cases ht : 1000 < p.t.size
        · have ht' : (1000 : Int) < (p.t.size : Int) := by omega
          go_wp2_with (first | (refine wpList_load_mid rfl 38 (.tmp 34) rfl b (o + k * 4) rfl [.int .u8 (p.k : Nat), .string p.t, .bool p.s, .int .i64 p.c] _ HC.out Try.underlying38 rfl info38r ?_))
          refine (works_any _).mono ?_
          rintro e w' ⟨rfl, hb⟩
          have H2 := Lib.hid (H1.out.on hb); clear hb
          go_wp2_with fail
          go_ret
          exact ⟨rfl, H2.out.below⟩
        · have ht' : (p.t.size : Int) ≤ 1000 := by omega
          obtain ⟨E, x3, y3, hput⟩ : ∃ E x3 y3, putR x y p.k p.t = (E, x3, y3) := ⟨_, _, _, rfl⟩
          have HPUT := Lib.hid hput
          obtain ⟨hs3, hj3⟩ := putR_sure hput HJ.out HL.out.ok.sure
          have HJ3 := Lib.hid hj3
          have HS3 := Lib.hid hs3
          have HO3 := Lib.hid (show x3.loose.length ≤ k + 1 by have := putR_loose hput; have := HO.out; omega)
          have hps : p.t.size ≤ 65536 := by omega
          have hlen1 : x.loose.length ≤ 1099511627776 := by have := HO.out; omega
          have HLN := Lib.hid (And.intro hlen1 (And.intro hps hp1))
          clear hput hj3 hs3 hps hlen1 ht hp1 hp2 hp3
          obtain ⟨s, hs⟩ : ∃ s, y.sure = s := ⟨_, rfl⟩
          have HS := Lib.hid hs; clear hs
          go_wp2_with (first | (refine wpList_load_mid rfl 38 (.tmp 34) rfl b (o + k * 4) rfl [.int .u8 (p.k : Nat), .string p.t, .bool p.s, .int .i64 p.c] _ HC.out Try.underlying38 rfl info38r ?_))
          refine (sureW HS.out H1.out).mono ?_
          rintro e w' ⟨rfl, rfl⟩
          go_wp2_with fail
          refine (putW HLN.out.2.2 HLN.out.2.1 HPUT.out H1.out HLN.out.1).mono ?_
          rintro e w3 ⟨rfl, h3, hsame⟩
          have hbx : w3.heap[wr.heap.size]? = some (.cells #[.int .u8 (p.k : Nat), .string p.t, .bool p.s, .int .i64 p.c] 38 (0, 0)) := (hsame _ (.inl rfl)).trans (heap_alloc_new wr _)
          obtain ⟨c0, c1, c2, c3⟩ := box4 hbx
          have H3 := Lib.hid h3
          clear h3 hsame hbx c0 c1 c3
          obtain ⟨m, hm⟩ : ∃ m, y3.recs.length = m := ⟨_, rfl⟩
          have hsm : (s : Int) ≤ (m : Int) := by have h1 := HS3.out; have h2 := H3.out.ok.sure; have h3 := HS.out; omega
          have HM := Lib.hid hm; clear hm
          have HS4 := Lib.hid (show y3.sure = s by rw [HS3.out, HS.out])
          go_wp2_with fail
          refine (sureW HS4.out H3.out).mono ?_
          rintro e w' ⟨rfl, rfl⟩
          go_wp2_with fail
          refine (sureW HS4.out H3.out).mono ?_
          rintro e w' ⟨rfl, rfl⟩
          go_wp2_with fail
          refine (lenW HM.out H3.out).mono ?_
          rintro e w' ⟨rfl, rfl⟩
          obtain ⟨sy, hsy⟩ : ∃ sy, p.s = sy := ⟨_, rfl⟩
          rw [hsy] at c2
          cases sy with
          | false =>
            go_wp2_with fail
            go_roundw
            case rel => exact ⟨k + 1, x3, y3, by omega, by go_num, drop_box H3.out (fun _ h => h.elim), HJ3.out, HO3.out⟩
            case measure => simp [intOf]; omega
          | true =>
            obtain ⟨E4, x4, y4, hsyn⟩ : ∃ E4 x4 y4, syncL x3 y3 = (E4, x4, y4) := ⟨_, _, _, rfl⟩
            have HSYN := Lib.hid hsyn
            obtain ⟨hj4, hiff⟩ := syncL_sure hsyn HJ3.out
            have HJ4 := Lib.hid hj4
            have HO4 := Lib.hid (show x4.loose.length ≤ k + 1 by have := syncL_loose hsyn; have := HO3.out; omega)
            obtain ⟨s4, hs4⟩ : ∃ s4, y4.sure = s4 := ⟨_, rfl⟩
            obtain ⟨m4, hm4⟩ : ∃ m4, y4.recs.length = m4 := ⟨_, rfl⟩
            have HQ := Lib.hid (And.intro hs4 hm4)
            rw [hs4, hm4] at hiff
            have HIFF := Lib.hid hiff
            clear hsyn hj4 hs4 hm4 hiff
            go_wp2_with fail
            refine (syncW HSYN.out H3.out).mono ?_
            rintro e w4 ⟨rfl, h4, -⟩
            have H4 := Lib.hid h4; clear h4
            go_wp2_with fail
            refine (sureW HQ.out.1 H4.out).mono ?_
            rintro e w' ⟨rfl, rfl⟩
            go_wp2_with fail
            refine (lenW HQ.out.2 H4.out).mono ?_
            rintro e w' ⟨rfl, rfl⟩
            by_cases hE : E4 = 0
            · have b1 := nat_eq (HIFF.out.1 hE)
              have b2 : (E4 == 0) = true := by simp [hE]
              clear hE
              go_wp2_with fail
              go_roundw
              case rel => exact ⟨k + 1, x4, y4, by omega, by go_num, drop_box H4.out (fun _ h => h.elim), HJ4.out, HO4.out⟩
              case measure => simp [intOf]; omega
            · have b1 := nat_ne (fun e => hE (HIFF.out.2 e))
              have b2 := int_ne hE
              clear hE
              go_wp2_with fail
              go_roundw
              case rel => exact ⟨k + 1, x4, y4, by omega, by go_num, drop_box H4.out (fun _ h => h.elim), HJ4.out, HO4.out⟩
              case measure => simp [intOf]; omega
      · have hkl : (l.length : Int) ≤ (k : Int) := by omega
        clear hlt
        go_wp2_with fail
        refine (works_any _).mono ?_
        rintro e w' ⟨rfl, hb⟩
        have H2 := Lib.hid (HL.out.on hb); clear hb
        go_wp2_with fail
        go_ret
        exact ⟨rfl, H2.out.below⟩
end Go.Proofs.Ytbnnbaoimidfnaa.lg

/- lex.Tokens, walked. -/
import Derived.Test.YtffhmbiamkbchaaDoorLxF
import Derived.WalkMore
namespace Go.Proofs.YtffhmbiamkbchaaDoor.lex
set_option linter.unusedSimpArgs false
set_option linter.unusedVariables false
open Go.RowKit nam

theorem len_snoc {α : Type} (l : List α) (x : α) : (l ++ [x]).length = l.length + 1 := by simp
theorem begun_at {w : World} {B g cap r p : Nat} {done : List Tok} {t : Tok} (hr : okR r) (hg : beg r p = some t) (h : Toks w B (.slice (some ⟨g, 0, none⟩) (done.length + 1) cap) (done ++ [⟨0, [], 0, p⟩])) :
    Calls Tryd.prog 52 #[.pointer (some ⟨g, done.length * 4, none⟩), .int .i32 r] w (BegunPost w B g cap done t) := by
  rw [Nat.mul_comm]; exact begun_yes hr hg h
theorem tok_beg {s : ByteArray} {w : World} {u2 u5 : Value} {wr : World} {pos k : Nat} {done D : List Tok} {cur : Option Tok} (h : TokIn s w u2 u5 wr pos k done cur) (hp : pos < s.size) {t : Tok} {w1 w2 w3 : World} {g cap b : Nat} (hg : keepO cur (Utf8.decode s pos).1 = .no) (hbk : blkB (Utf8.decode s pos).1 = false) (hbg : beg (Utf8.decode s pos).1 k = some t)
    (hb : Below (wr.iterAt w.heap.size s (pos + (Utf8.decode s pos).2)).heap.size (wr.iterAt w.heap.size s (pos + (Utf8.decode s pos).2)) w1) {o : Obj}
    (hgr : (w1.alloc o).grownBy w2 u2.ownBlock) (hrow2 : Toks w2 w.heap.size (.slice (some ⟨g, 0, none⟩) (D.length + 1) cap) (D ++ [⟨0, [], 0, k⟩]))
    (hle : w2.heap.size ≤ b) (hx : Box w3 b g (4 * D.length)) (hrow : Toks w3 w.heap.size (.slice (some ⟨g, 0, none⟩) (D.length + 1) cap) (D ++ [t])) (hgr3 : w2.grownBy w3 (some g)) (hD : done ++ cur.toList = D) :
    TokIn s w (.slice (some ⟨g, 0, none⟩) (D.length + 1) cap) (.func (.func (kf t.kind)) #[] #[.pointer (some ⟨b, 0, none⟩)]) w3 (pos + (Utf8.decode s pos).2) (k + 1) D (some t) := by
  subst hD
  exact h.beg hp hg hbk hbg hb hgr hrow2 hle hx hrow hgr3
theorem tok_bad {w wi w1 w2 w3 : World} {u2 : Value} {D : List Tok} {o : Obj} (h4 : Below w.heap.size w wi) (hb : Below wi.heap.size wi w1) (hr : Toks wi w.heap.size u2 D) (hg : (w1.alloc o).grownBy w2 u2.ownBlock) (hb3 : Below w2.heap.size w2 w3) : Below w.heap.size w w3 := by
  have s1 := h4.size
  have s2 := hb.size
  have b2 : Below w.heap.size w w2 := ((h4.trans (hb.mono s1)).alloc (by omega) o).grown hg (by simp; omega) (fun j hj => (hr.lt j hj).1)
  exact b2.trans (hb3.mono b2.size)
set_option maxRecDepth 1000000 in
theorem tokens_long (s : ByteArray) (w : World) (hs : 400 < s.size) : Calls Tryd.prog 34 #[.string s] w (TokPost s w) := by
  go_enter Tryd.func34, Tryd.ntmps34
  go_wp2
  go_step3
  go_wp2
  rw [Exit.noGoto_ret]
  go_ret3
  exact tok_post (by unfold toksO; rw [if_pos hs]) (toks_nil _ _) (Below.refl _ _)

set_option maxHeartbeats 1600000 in
set_option maxRecDepth 1000000 in
theorem tokens_any (s : ByteArray) (w : World) : Calls Tryd.prog 34 #[.string s] w (TokPost s w) := by
  by_cases h400 : 400 < s.size
  · exact tokens_long s w h400
  obtain ⟨i0, hi, hz0, hz1, hz2⟩ := info_parts infoTok
  have hO : toksO s = scan [] none 0 (rn s 0) := by unfold toksO; rw [if_neg h400]
  have HO := Lib.hid hO; clear hO
  have hrl := rn_length s 0
  go_enter Tryd.func34, Tryd.ntmps34
  go_wp2
  go_step3
  go_wp2
  go_step3
  go_wp2
  go_loopw [2, 4, 5, 6] (fun u2 u4 u5 u6 wr => TokRel s w u2 u5 u6 wr ∧ u4 = .int .i64 0) (fun _ _ _ _ wr => s.size - wr.iterPos w.heap.size)
  case atStart => exact ⟨tok_start s w, rfl⟩
  case round =>
    obtain ⟨⟨pos, k, done, cur, HI, rfl⟩, rfl⟩ := hrel
    have hit := HI.it
    have hleft := HI.left
    have hk400 : k ≤ 400 := by omega
    have hk1 : (k : Int) + 1 ≤ 9223372036854775807 := by omega
    have HH := Lib.hid HI
    clear HI
    by_cases hp : pos < s.size
    · have hnx : ∀ ty, (Instr.next (.pointer (some ⟨w.heap.size, 0, none⟩)) true ty).run Tryd.prog wr = _ := fun ty => Lib.run_next_any_at wr w.heap.size s pos ty hit hp
      obtain ⟨n1, n2, n3, n4⟩ := HH.out.next (pos + (Utf8.decode s pos).2)
      obtain ⟨K, cp, rfl, hen, hcall⟩ := keep_call (r := (Utf8.decode s pos).1) HH.out.wf (by omega) (decode_ok s pos) n2 n1
      have HC := Lib.hid hcall
      have HT := Lib.hid hit
      clear hcall hit n1 n2 n3 n4 hleft
      cases hg : keepO cur (Utf8.decode s pos).1 with
      | yes t =>
        have HG := Lib.hid hg
        clear hg
        go_wp2_with fail
        refine HC.out.mono ?_
        rintro e w1 h
        rw [HG.out] at h
        obtain ⟨rfl, r1, r2, r3⟩ := h
        have HR := Lib.hid (HH.out.yes hp HG.out r1 r2 r3)
        clear r1 r2 r3
        go_wp2_with fail
        go_roundw
        case rel => exact ⟨⟨_, _, _, _, HR.out, by go_num⟩, rfl⟩
        case measure => simp only [World.iterPos, HR.out.it, HT.out]; have := width_pos s pos hp; omega
      | big =>
        have HG := Lib.hid hg
        have hcur : ∃ t, cur = some t := by
          cases cur with
          | none => cases hg
          | some t => exact ⟨t, rfl⟩
        obtain ⟨t, rfl⟩ := hcur
        obtain ⟨n1, ⟨b, g, cap, hB, rfl, hkv, hx⟩, n3, n4⟩ := HH.out.next (pos + (Utf8.decode s pos).2)
        have HN1 := Lib.hid n1; have HN4 := Lib.hid n4
        have hfew : done.length + 1 ≤ k := by have := HH.out.few; simpa using this
        have hlen : (done.length : Int) + 1 ≤ 9223372036854775807 := by omega
        clear hg n1 n3 n4 hx hB
        go_wp2_with fail
        refine HC.out.mono ?_
        rintro e w1 h
        rw [HG.out] at h
        obtain ⟨rfl, r1⟩ := h
        have HT1 := Lib.hid (toks_below HN1.out r1)
        have HB1 := Lib.hid (HN4.out.trans (r1.mono HN4.out.size))
        obtain ⟨_, _, _, hat, _⟩ := last_cells HT1.out
        clear r1
        go_wp2_with fail
        have hw1 : IntKind.i64.wrap (done.length : Int) = done.length := IntWalk.i64_in _ (by omega)
        have hw2 : (done.length : Int) + 1 - 1 = done.length := Int.add_sub_cancel _ _
        have hx1 : (done.length : Int) < (done.length : Int) + 1 := by omega
        have hx2 : (0 : Int) ≤ (done.length : Int) := by omega
        rw [Nat.mul_comm] at hat
        go_region
        all_goals
          go_wp2_with fail
          rw [Exit.noGoto_ret]
          go_ret3
          exact tok_post (HO.out.trans ((HH.out.step hp).1.symm.trans (scan_big HG.out))) (toks_nil _ _) ⟨HB1.out.os, HB1.out.tape, HB1.out.output, HB1.out.size, HB1.out.block⟩
      | no =>
        have HG := Lib.hid hg
        clear hg
        cases hbk : blkB (Utf8.decode s pos).1 with
        | true =>
          have HB := Lib.hid hbk
          have hbk' : (((Utf8.decode s pos).1 : Int) == 32) = true ∨ (((Utf8.decode s pos).1 : Int) == 32) = false ∧ (((Utf8.decode s pos).1 : Int) == 9) = true := by
            unfold blkB at hbk
            simp at hbk ⊢
            omega
          clear hbk
          rcases hbk' with h32 | ⟨h32, h9⟩
          all_goals
            go_wp2_with fail
            refine HC.out.mono ?_
            rintro e w1 h
            rw [HG.out] at h
            obtain ⟨rfl, r1⟩ := h
            have HR := Lib.hid (HH.out.blank hp HG.out HB.out r1)
            clear r1
            go_wp2_with fail
            go_roundw
            case rel => exact ⟨⟨_, _, _, _, HR.out, by go_num⟩, rfl⟩
            case measure => simp only [World.iterPos, HR.out.it, HT.out]; have := width_pos s pos hp; omega
        | false =>
          have HB := Lib.hid hbk
          have hbk' : (((Utf8.decode s pos).1 : Int) == 32) = false ∧ (((Utf8.decode s pos).1 : Int) == 9) = false := by
            unfold blkB at hbk
            simp at hbk ⊢
            omega
          obtain ⟨h32, h9⟩ := hbk'
          clear hbk
          have hfew : (done ++ cur.toList).length ≤ k := by have := HH.out.few; simpa using this
          have hsz := HH.out.below.size
          obtain ⟨n1, n2, n3, n4⟩ := HH.out.next (pos + (Utf8.decode s pos).2)
          obtain ⟨D, hD⟩ : ∃ D, done ++ cur.toList = D := ⟨_, rfl⟩
          have hn1 : Toks (wr.iterAt w.heap.size s (pos + (Utf8.decode s pos).2)) w.heap.size u2 D := hD ▸ n1
          rw [hD] at hfew
          have HN1 := Lib.hid hn1; have HN4 := Lib.hid n4; have HD := Lib.hid hD
          clear n1 n2 n3 n4 hn1 hD
          go_wp2_with fail
          refine HC.out.mono ?_
          rintro e w1 h
          rw [HG.out] at h
          obtain ⟨rfl, r1⟩ := h
          have HB1 := Lib.hid r1
          have ht1 : w1.ownsRow w.heap.size 75 4 u2 D.length (flat D) := toks_below HN1.out r1
          have HT1 := Lib.hid ht1
          have hs1 := HN4.out.size
          have hs2 := r1.size
          have HSZ : Hid (∀ o, w.heap.size ≤ (w1.alloc o).heap.size) := Lib.hid (fun o => by rw [World.size_alloc]; omega)
          clear r1 hs1 hs2 hsz ht1
          go_wp2_with (at_builtin; refine wpList_append_own _ rfl (.tmp 24) (.tmp 27) 54 rfl w.heap.size 75 i0 (.agg #[.int .u8 0, .string ⟨#[]⟩, .int .i64 0, .int .i64 0]) 4 40 Tryd.underlying54 hi hz0 hz1 hz2 rfl (by decide) _ _ _ rfl (HT1.out.alloc _) ⟨_, 0, none⟩ 1 1 [.int .u8 0, .string ⟨#[]⟩, .int .i64 0, .int .i64 k] rfl rfl (cell_four_new _ _ _ _ _ _) (by simp [Value.oneCell']) (by unfold maxLen; omega) (by omega) (HSZ.out _) ?_)
          intro v4 w2 k4 g4 _
          have hform : ∃ g cap, v4 = .slice (some ⟨g, 0, none⟩) (D.length + 1) cap := by
            rcases k4.2 with ⟨_, h0⟩ | ⟨g, cap, _, hv, _⟩
            · omega
            · exact ⟨g, cap, hv⟩
          obtain ⟨g, cap, rfl⟩ := hform
          have hrow2 : Toks w2 w.heap.size (.slice (some ⟨g, 0, none⟩) (D.length + 1) cap) (D ++ [⟨0, [], 0, k⟩]) := by
            unfold Toks
            rw [flat_snoc, len_snoc]
            exact k4
          have HR2 := Lib.hid hrow2; have HG2 := Lib.hid g4
          clear k4 g4 hrow2
          have hlen : (D.length : Int) + 1 ≤ 9223372036854775807 := by omega
          have hw2 : (D.length : Int) + 1 - 1 = D.length := Int.add_sub_cancel _ _
          cases hbg : beg (Utf8.decode s pos).1 k with
          | some t =>
            have HBG := Lib.hid hbg
            clear hbg
            go_wp2_with fail
            refine (begun_at (decode_ok s pos) HBG.out HR2.out).mono ?_
            rintro e w3 ⟨b, hle, rfl, hx, ht, hgr⟩
            have HN := Lib.hid (tok_beg HH.out hp HG.out HB.out HBG.out HB1.out HG2.out HR2.out hle hx ht hgr HD.out)
            clear hle hx ht hgr
            go_wp2_with fail
            go_roundw
            case rel => exact ⟨⟨_, _, _, _, HN.out, by go_num⟩, rfl⟩
            case measure => simp only [World.iterPos, HN.out.it, HT.out]; have := width_pos s pos hp; omega
          | none =>
            have HBG := Lib.hid hbg
            clear hbg
            go_wp2_with fail
            refine (begun_no (decode_ok s pos) HBG.out).mono ?_
            rintro e w3 ⟨rfl, hb3⟩
            obtain ⟨_, _, _, hat, _⟩ := last_cells (toks_below HR2.out hb3)
            rw [Nat.mul_comm] at hat
            have HB3 := Lib.hid (tok_bad HN4.out HB1.out HN1.out HG2.out hb3)
            clear hb3
            have hw1 : IntKind.i64.wrap (D.length : Int) = D.length := IntWalk.i64_in _ (by omega)
            have hx1 : (D.length : Int) < (D.length : Int) + 1 := by omega
            have hx2 : (0 : Int) ≤ (D.length : Int) := by omega
            go_wp2_with fail
            go_region
            all_goals
              go_wp2_with fail
              rw [Exit.noGoto_ret]
              go_ret3
              exact tok_post (HO.out.trans ((HH.out.step hp).1.symm.trans (scan_bad HG.out HB.out HBG.out))) (toks_nil _ _) ⟨HB3.out.os, HB3.out.tape, HB3.out.output, HB3.out.size, HB3.out.block⟩
    · have hnx : ∀ ty, (Instr.next (.pointer (some ⟨w.heap.size, 0, none⟩)) true ty).run Tryd.prog wr = _ := fun ty => Lib.run_next_end_at wr w.heap.size s pos ty hit hp
      have HE := Lib.hid (HO.out.trans (HH.out.all.symm.trans (by rw [rn_end s pos hp, scan_nil])))
      clear hit hleft
      go_wp2_with fail
      rw [Exit.noGoto_ret]
      go_ret3
      exact tok_post HE.out HH.out.row HH.out.below
end Go.Proofs.YtffhmbiamkbchaaDoor.lex

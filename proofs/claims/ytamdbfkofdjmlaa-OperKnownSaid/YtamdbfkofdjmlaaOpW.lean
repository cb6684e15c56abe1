/- works: numbers are put together by their key. -/
import Derived.Test.YtamdbfkofdjmlaaOpV
namespace Go.Proofs.Ytamdbfkofdjmlaa.opr
set_option linter.unusedSimpArgs false
set_option linter.unusedVariables false
open Go.RowKit
attribute [local go_sem ↓] Go.wp_at_zero Go.wp_at_succ
open Go.Proofs.Ytamdbfkofdjmlaa.tbl (Only lt_of_get IsTab Two putO TabO Rows2 mkC GetPost PutPost MadeT)
open Go.Proofs.Ytamdbfkofdjmlaa.grp (below_on' below_made fits)
open Go.Proofs.Ytamdbfkofdjmlaa.exp (Ex Lies En intO exV enV)
def exSum : Ex := .mk 7 0 [.mk 4 0 [], .mk 3 0 []]
theorem size_sum : exSum.size ≤ 1000000 := by decide
theorem sum_one : intO exSum ⟨5, 2, 0⟩ = 2 := by kernel_rfl
theorem sum_two : intO exSum ⟨5, 4, 2⟩ = 6 := by kernel_rfl
def wkL (k : Nat) : tbl.Rows := match k with
  | 0 => []
  | 1 => [(5, (2, []))]
  | _ => [(5, (6, []))]
def wkO (k : Nat) : List Rc := match k with
  | 0 => [(1, 5, 2)]
  | 1 => [(2, 5, 6)]
  | _ => []
theorem wkO_len (k : Nat) : (outsTo wkO k).length ≤ 2 := by
  have h : ∀ m, outsTo wkO (m + 2) = [(1, 5, 2), (2, 5, 6)] := fun m => by
    induction m with
    | zero => rfl
    | succ m ih => rw [show m + 1 + 2 = (m + 2) + 1 by omega, outsTo_succ, ih]; rfl
  match k with
  | 0 => decide
  | 1 => decide
  | k + 2 => rw [h]; decide
theorem red_do {w : World} {ai : Option Addr} {bk t b : Nat} {u : Value} (hl : Lies w (· = bk) (.slice (some ⟨bk, 0, none⟩) 2 2) [.mk 4 0 [], .mk 3 0 []]) (ht : IsTab w t b []) (hu : Sr w u [(1, 5, 2), (2, 5, 4)]) (hne : ∀ a n c, u = .slice (some a) n c → ¬ Two t b a.block) :
    Calls Try.prog 7 #[nodeV ⟨⟨#[110]⟩, 6, ai, 1, 1, 7, 0, some ⟨bk, 0, none⟩, 2, 2, 0⟩, .pointer (some ⟨t, 0, none⟩), u] w fun e w' => ∃ v', e = .returned v' ∧ Own w' w.heap.size v' [(1, 5, 2), (2, 5, 6)] ∧ Only (Two t b) w w' := by
  refine (do_any _ (some ⟨t, 0, none⟩) hu (by simp) (Two t b) (fun k hk => by obtain ⟨h1, h2, _⟩ := ht.lt; rcases hk with rfl | rfl <;> assumption) hne 59 (enters_of Try.func59 (by kernel_rfl) rfl) (fun bd k w' => RedI ⟨⟨#[110]⟩, 6, ai, 1, 1, 7, 0, some ⟨bk, 0, none⟩, 2, 2, 0⟩ [.mk 4 0 [], .mk 3 0 []] (· = bk) t b bd (wkL k) w') wkO
    (fun k => by have := wkO_len k; omega) (fun bd k w' w'' h hs => h.stay hs) (fun w' hw => picked_red _ _ _ _ _ _ _ _ _ _ (hl.under hw) (ht.below hw)) (fun bd k r w' hr hI => ?_)).mono ?_
  · match k, hr with
    | 0, hr =>
      injection hr with hr
      subst hr
      exact red_step hI size_sum (1, 5, 2) ⟨by decide, by decide⟩ (x := 2) sum_one ⟨by decide, by decide⟩ (by decide)
    | 1, hr =>
      injection hr with hr
      subst hr
      exact red_step hI size_sum (2, 5, 4) ⟨by decide, by decide⟩ (x := 6) sum_two ⟨by decide, by decide⟩ (by decide)
    | k + 2, hr => simp at hr
  · rintro e w' ⟨v', rfl, h1, -, h2⟩
    exact ⟨v', rfl, h1, h2⟩
theorem not_two {w : World} {t b : Nat} {L : tbl.Rows} (h : IsTab w t b L) {j : Nat} {cs : Array Value} (hj : w.heap[j]? = some (.cells cs 32 (0, 0))) : ¬ Two t b j := by
  obtain ⟨es, ck, hb⟩ := h.map.isMap
  have ht := h.obj
  unfold TabO at ht
  rintro (e | e)
  · rw [e, ht] at hj; cases hj
  · rw [e, hb] at hj; cases hj
set_option maxHeartbeats 6400000 in
set_option maxRecDepth 1000000 in
theorem works_any (w : World) : Calls Try.prog 11 #[] w fun e w' => e = .returned (.bool true) ∧ Below w.heap.size w w' := by
  have HN : Hid (Calls Try.prog 8 #[.int .u8 6, .int .u8 7, .int .u8 4, .int .u8 3, .int .i64 0] w fun e w' =>
    ∃ ai bk, e = .returned (nodeV ⟨⟨#[110]⟩, 6, ai, 1, 1, 7, 0, some ⟨bk, 0, none⟩, 2, 2, 0⟩) ∧ Lies w' (· = bk) (.slice (some ⟨bk, 0, none⟩) 2 2) [.mk 4 0 [], .mk 3 0 []] ∧ Below w.heap.size w w') := Lib.hid (node_two 6 7 4 3 (by decide) 0 w)
  have HNEW := Lib.hid (fun w => tbl.new_any w)
  have HDO := Lib.hid (fun w ai bk t b u hl ht hu hne => red_do (w := w) (ai := ai) (bk := bk) (t := t) (b := b) (u := u) hl ht hu hne)
  have HEQ := Lib.hid (fun w u v l q h h' hl hq => equal_any (w := w) (u := u) (v := v) (l := l) (q := q) h h' hl hq)
  unfold nodeV Nv.cells at HN HDO
  dsimp only at HN HDO
  go_enter Try.func11, Try.ntmps11
  go_wp2_with fail
  (with_reducible refine HN.out.mono ?_)
  rintro e w1 ⟨ai, bk, rfl, hl1, hb1⟩
  have HL1 := Lib.hid hl1
  have HB1 := Lib.hid hb1
  clear hl1 hb1 HN
  go_wp2_with fail
  refine (HNEW.out _).mono ?_
  rintro e w2 ⟨t, b, rfl, ht2, htb, hbb, hb2⟩
  have hb3 := below_made w2 (.cells #[.int .i64 1, .int .i64 5, .int .i64 2, .int .i64 2, .int .i64 5, .int .i64 4] 32)
  have hsr := sr_made w2 [(1, 5, 2), (2, 5, 4)] (by decide) (by decide) #[.int .i64 1, .int .i64 5, .int .i64 2, .int .i64 2, .int .i64 5, .int .i64 4] rfl
  have HC := Lib.hid (HDO.out _ ai bk t b _ ((HL1.out.under hb2).under hb3) (ht2.below hb3) hsr (fun a n c e => by
    injection e with e1 e2 e3
    injection e1 with e1
    rw [← e1]
    exact not_two (ht2.below hb3) (Go.heap_alloc_new w2 _)))
  have HB3 := Lib.hid (below_on' (below_on' HB1.out hb2) hb3)
  have HT := Lib.hid (And.intro htb (And.intro hbb HB1.out.size))
  clear ht2 htb hbb hb2 hb3 hsr
  go_wp2_with fail
  refine HC.out.mono ?_
  rintro e w3 ⟨v', rfl, ho3, hon3⟩
  have hb3 : Below w.heap.size w w3 := HB3.out.trans (hon3.below HB3.out.size (fun k hk => by
    obtain ⟨h1, h2, h3⟩ := HT.out
    rcases hk with rfl | rfl <;> omega))
  obtain ⟨a3, c3, rfl⟩ := ho3.len
  have hb4 := below_made w3 (.cells #[.int .i64 1, .int .i64 5, .int .i64 2, .int .i64 2, .int .i64 5, .int .i64 6] 32)
  have hsr := sr_made w3 [(1, 5, 2), (2, 5, 6)] (by decide) (by decide) #[.int .i64 1, .int .i64 5, .int .i64 2, .int .i64 2, .int .i64 5, .int .i64 6] rfl
  have HE := Lib.hid (HEQ.out _ _ _ _ _ (ho3.sr.below hb4) hsr (by decide) (by decide))
  have HB4 := Lib.hid (below_on' hb3 hb4)
  clear ho3 hon3 hb3 hb4 hsr
  go_wp2_with fail
  refine HE.out.mono ?_
  rintro e w4 ⟨rfl, hb5⟩
  have HF := Lib.hid (below_on' HB4.out hb5)
  clear hb5
  go_wp2
  go_ret
  exact ⟨rfl, HF.out⟩
end Go.Proofs.Ytamdbfkofdjmlaa.opr

/- The reference's one: walked, but for 'if'. Written by tools/genOneRef.py. -/
import Derived.Test.YtffhmbiamkbchaaDoorMRg
import Derived.StillTailTactics
namespace Go.Proofs.YtffhmbiamkbchaaDoor.exp
set_option linter.unusedSimpArgs false
set_option linter.unusedVariables false
open Go.RowKit nam lex

def wrd : Nat → List Nat
  | 0 => [107, 101, 121]
  | 1 => [118, 97, 108]
  | _ => [97, 99, 99]
def NotYet (S : Src) (i j : Nat) : Prop := ∀ k, k < j → txt (S.at i) ≠ wrd k
def IsC (S : Src) (i : Nat) (t : List Nat) (T : ByteArray) : Prop := ∀ (w : World), Rt S w i (-1) → ∀ b, decide (txt (S.at i) = t) = b → Calls Tryd.prog 61 #[.pointer (some ⟨S.rb, 0, none⟩), .string T] w fun e w' => e = .returned (.bool b) ∧ Below w.heap.size w w'
theorem isC {S : Src} {i : Nat} {t : List Nat} (hto : ∀ r ∈ t, okR r) (htn : t ≠ []) {T : ByteArray} (hT : textOf t = T) : IsC S i t T := fun w h b hb => by
  have := ref_is h hto htn hT
  have e : isB (-1) (S.at i) t = b := by rw [← hb]; unfold isB; simp
  rw [e] at this
  exact this
theorem oneP_num {f : List Tok → Out} {l : List Tok} (h : knd l = 2) : oneP f l = .ok (.mk 1 (num l) []) l.tail := by unfold oneP; rw [if_pos h]
theorem oneP_word {f : List Tok → Out} {l : List Tok} (h : knd l ≠ 2) (j : Nat) (hj : j < 3) (hx : txt l = wrd j) : oneP f l = .ok (.mk (2 + j) 0 []) l.tail := by
  unfold oneP
  rw [if_neg h]
  match j, hj with
  | 0, _ => rw [if_pos (show txt l = [107, 101, 121] from hx)]
  | 1, _ => rw [if_neg (by rw [hx]; decide), if_pos (show txt l = [118, 97, 108] from hx)]
  | 2, _ => rw [if_neg (by rw [hx]; decide), if_neg (by rw [hx]; decide), if_pos (show txt l = [97, 99, 99] from hx)]
theorem oneP_paren {f : List Tok → Out} {l : List Tok} (h : knd l ≠ 2) (hx : txt l = [40]) : oneP f l = (match f l.tail with | .bad l' => .bad l' | .ok x l' => if txt l' = [41] then .ok x l'.tail else .bad l') := by
  unfold oneP
  rw [if_neg h, if_neg (by rw [hx]; decide), if_neg (by rw [hx]; decide), if_neg (by rw [hx]; decide), if_pos hx]
  cases f l.tail <;> rfl
theorem oneP_if {f : List Tok → Out} {l : List Tok} (h : knd l ≠ 2) (hx : txt l = wIf) : oneP f l = ifP f l := by
  unfold oneP
  rw [if_neg h, if_neg (by rw [hx]; decide), if_neg (by rw [hx]; decide), if_neg (by rw [hx]; decide), if_neg (by rw [hx]; decide), if_pos hx]
theorem oneP_none {f : List Tok → Out} {l : List Tok} (h : knd l ≠ 2) (h0 : ∀ k, k < 3 → txt l ≠ wrd k) (hp : txt l ≠ [40]) (hi : txt l ≠ wIf) : oneP f l = .bad l := by
  unfold oneP
  rw [if_neg h, if_neg (show ¬ txt l = [107, 101, 121] from h0 0 (by omega)), if_neg (show ¬ txt l = [118, 97, 108] from h0 1 (by omega)), if_neg (show ¬ txt l = [97, 99, 99] from h0 2 (by omega)), if_neg hp, if_neg hi]

theorem Rt.num {S : Src} {w : World} {i j g c : Nat} {bd : Int} (h : Rt S w i bd) (hv : S.tv = .slice (some ⟨g, 0, none⟩) S.toks.length c) (hj : j < S.toks.length) : w.cell? ⟨g, j * 4 + 2, none⟩ = some (.int .i64 (S.toks[j].n : Int)) := by
  have hrow := h.row
  rw [hv] at hrow
  exact toks_range (j := j) (t := S.toks[j]) hrow rfl (by simp [hj]) 2 _ rfl
set_option maxHeartbeats 6400000 in
set_option maxRecDepth 1000000 in
theorem one_ref {S : Src} {f : List Tok → Out} {i : Nat} {w : World} (hf : Row0 S f (S.at i).length) (hs : Rt S w i (-1)) (hif : txt (S.at i) ≠ wIf) :
    Calls Tryd.prog 62 #[ptr S.rb] w (RPost S (oneP f (S.at i)) w) := by
  obtain ⟨W, hW⟩ : ∃ W, w.alloc (.cells #[.int .u8 0, .int .i64 0, .slice none 0 0] 27) = W := ⟨_, rfl⟩
  obtain ⟨N0, hN0⟩ : ∃ N, w.heap.size = N := ⟨_, rfl⟩
  have hwb : Below w.heap.size w W := by rw [← hW]; exact (Below.refl _ _).alloc (Nat.le_refl _) _
  have hbx : Bx W N0 0 0 none 0 0 := by rw [← hW]; exact heap_last hN0.symm
  obtain ⟨W2, hW2⟩ : ∃ W2, W.alloc (.cells #[.int .u8 0, .int .i64 0, .slice none 0 0] 27) = W2 := ⟨_, rfl⟩
  obtain ⟨N1, hN1⟩ : ∃ N, W.heap.size = N := ⟨_, rfl⟩
  have hwb2 : Below W.heap.size W W2 := by rw [← hW2]; exact (Below.refl _ _).alloc (Nat.le_refl _) _
  have hbx2 : Bx W2 N1 0 0 none 0 0 := by rw [← hW2]; exact heap_last hN1.symm
  have hne : N0 ≠ N1 := by have := hW ▸ hN1; rw [World.size_alloc] at this; omega
  obtain ⟨W3, hW3⟩ : ∃ W3, exp.set3 W2 N1 0 0 none 0 0 = W3 := ⟨_, rfl⟩
  have hwbb : Below w.heap.size w W3 := by
    rw [← hW3]
    exact only_none (set3_only (F := fun _ => False) (Only.of_below (hwb.trans (hwb2.mono hwb.size))) (b := N1) (A := 0) (N := 0) (p := none) (n := 0) (c := 0) (by have := hwb.size; omega)) (fun k h => h)
  have hb0 : Bx W3 N0 0 0 none 0 0 := by rw [← hW3]; exact (set3_other hne).trans (hbx.under hwb2)
  have hb1 : Bx W3 N1 0 0 none 0 0 := by rw [← hW3]; exact hbx2.set _ _ _ _ _
  have hs3 := hs.under hwbb
  obtain ⟨q0, q1, q2, q3, q4, q5⟩ := hbx2.cells
  obtain ⟨c0, c1, c2, c3, f1, f3⟩ := hs3.cells
  obtain ⟨a, cc, hv, ht⟩ := hs3.tok
  rw [hv] at c0
  have hv' := hv
  have hle := hs.le
  have hfew := hs.few
  have HB := Lib.hid hwbb; have HB0 := Lib.hid hb0; have HB1 := Lib.hid hb1; have HS := Lib.hid hs3; have HN := Lib.hid (Nat.le_of_eq hN0); have HF := Lib.hid hf; have HIF := Lib.hid hif
  obtain ⟨O, hOO⟩ : ∃ O, oneP f (S.at i) = O := ⟨_, rfl⟩
  rw [hOO]
  have HOO := Lib.hid hOO
  unfold exp.set3 at hW3
  clear hOO hs hs3 hwb hbx hwb2 hbx2 hwbb hb0 hb1 hf hne hif
  obtain ⟨nn, hnn⟩ : ∃ nn, S.toks.length = nn := ⟨_, rfl⟩
  have HK := Lib.hid hnn
  have hI0 := Lib.hid (isC (S := S) (i := i) (t := wrd 0) (okl (by decide)) (by decide) (T := ⟨#[107, 101, 121]⟩) rfl)
  have hI1 := Lib.hid (isC (S := S) (i := i) (t := wrd 1) (okl (by decide)) (by decide) (T := ⟨#[118, 97, 108]⟩) rfl)
  have hI2 := Lib.hid (isC (S := S) (i := i) (t := wrd 2) (okl (by decide)) (by decide) (T := ⟨#[97, 99, 99]⟩) rfl)
  have hI3 := Lib.hid (isC (S := S) (i := i) (t := [40]) (okl (by decide)) (by decide) (T := ⟨#[40]⟩) rfl)
  have hI4 := Lib.hid (isC (S := S) (i := i) (t := wIf) (okl (by decide)) (by decide) (T := ⟨#[105, 102]⟩) rfl)
  unfold ptr at *
  by_cases hk2 : knd (S.at i) = 2
  · have hi : i < S.toks.length := by
      by_cases h : i < S.toks.length
      · exact h
      · rw [at_nil (by omega)] at hk2; exact absurd hk2 (by decide)
    obtain ⟨g, rfl, e0, e1, e2, e3⟩ := ht hi
    have hkk : S.toks[i].kind = 2 := by rw [at_cons hi] at hk2; exact hk2
    have hO : O = .ok (.mk 1 (S.toks[i].n : Int) []) (S.at (i + 1)) := by
      rw [← HOO.out, oneP_num hk2, at_tail]
      have : num (S.at i) = S.toks[i].n := by rw [at_cons hi]; rfl
      rw [this]
    have HO := Lib.hid hO
    have hkb : ((S.toks[i].kind : Int) == 2) = true := by simp [hkk]
    have HI := Lib.hid hi
    generalize S.toks[i].kind = ki at e0 hkb
    have HNUM : Hid (∀ (w : World) (i' : Nat) (bd : Int), Rt S w i' bd → w.cell? ⟨g, i * 4 + 2, none⟩ = some (.int .i64 (S.toks[i].n : Int))) := Lib.hid (fun w i' bd h => h.num hv' hi)
    have e2' : W3.cell? ⟨g, i * 4 + 2, none⟩ = some (.int .i64 (S.toks[i].n : Int)) := e2
    generalize S.toks[i].n = tn at e2 e2' HO HNUM
    rw [hnn] at c0 hi hfew
    have hin : (i : Int) < (nn : Int) := by omega
    have hi4 : (i : Int) < 400 := by omega
    have hw1 : IntKind.i64.wrap ((i : Int) + 1) = (i : Int) + 1 := IntWalk.i64_in _ ⟨by omega, by omega⟩
    have hw2 : IntKind.i64.wrap ((i : Int) + 1 - 1) = (i : Int) := by rw [IntWalk.i64_in _ ⟨by omega, by omega⟩]; omega
    have hw3 : IntKind.i64.wrap (i : Int) = (i : Int) := IntWalk.i64_in _ ⟨by omega, by omega⟩
    have HV := Lib.hid hv'
    clear ht hO hkk hv' hnn hv hle hk2 e1 e3 e2 hI0 hI1 hI2 hI3 hI4
    go_enter Tryd.func62, Tryd.ntmps62
    go_wp2_with fail
    go_quiet (fail)
    go_wp2_with fail
    have hq : Below W3.heap.size W3 (W3.drewN nq) := belowD (Below.refl _ _) nq
    obtain ⟨wd, hwd⟩ : ∃ wd, (W3.drewN nq).setCell ⟨S.rb, 1, none⟩ (.int .i64 ((i : Int) + 1)) = wd := ⟨_, rfl⟩
    obtain ⟨ed, rd, hp⟩ := leaf_ref (o := 1) (m := (tn : Int)) (Only.of_below (HB.out.trans (hq.mono HB.out.size))) HN.out (HB0.out.under hq) (HS.out.under hq) HI.out hwd
    rw [← HO.out] at hp
    have HP := Lib.hid hp; have HED := Lib.hid ed
    obtain ⟨d0, d1, _⟩ := rd.cells
    rw [HV.out, HK.out] at d0
    have d2 := HNUM.out _ _ _ rd
    obtain ⟨a1, a2, a3, a4, a5, a6⟩ := ed.cells
    have hd1 : ((i + 1 : Nat) : Int) = (i : Int) + 1 := by omega
    rw [hd1] at d1
    rw [hwd]
    clear rd ed hp c0 c1 c2 c3 e0 e2' hwd hd1 hW3 hW2 hW
    go_still_tail 12, (by kernel_rfl)
    trace_state
    change wpList _ _ _ _ _ wd.drew
    have hpd : RPost S O w (.returned (.agg #[.int .u8 1, .int .i64 tn, .slice none 0 0])) (set3 wd.drew N0 1 tn none 0 0) := by
      obtain ⟨A', M', p', n', c', b', i', k1, k2, k3, k4⟩ := HP.out
      exact ⟨A', M', p', n', c', b', i', k1, k2.under ⟨rfl, rfl, rfl, Nat.le_refl _, fun _ _ => rfl⟩, k3.then (.of_below ⟨rfl, rfl, rfl, Nat.le_refl _, fun _ _ => rfl⟩), by
        cases O with
        | bad l => exact k4
        | ok x l => exact ⟨k4.1, k4.2.1, k4.2.2.1, k4.2.2.2.1, k4.2.2.2.2.1.under ⟨rfl, rfl, rfl, Nat.le_refl _, fun _ _ => rfl⟩, k4.2.2.2.2.2⟩⟩
    have HPD := Lib.hid hpd
    clear hpd
    go_wp2_with fail
    refine bodyPost_ret (v := .agg #[.int .u8 1, .int .i64 tn, .slice none 0 0]) (by simp [results, Tryd.f62, go_sem, a1, a2, a3]) rfl HPD.out
  · have HK2 := Lib.hid hk2
    by_cases hi : i < S.toks.length
    · obtain ⟨g, rfl, e0, e1, e2, e3⟩ := ht hi
      have hkk : S.toks[i].kind ≠ 2 := by rw [at_cons hi] at hk2; exact hk2
      have hkb : ((S.toks[i].kind : Int) == 2) = false := by simp; omega
      generalize S.toks[i].kind = ki at e0 hkb
      rw [hnn] at c0 hi hfew
      have hin : (i : Int) < (nn : Int) := by omega
      clear ht hkk hv' hnn hv hle hk2 e1 e3 e2
      go_enter Tryd.func62, Tryd.ntmps62
      go_wp2_with fail
      go_quiet (fail)
      go_wp2_with fail
      have hq : Below W3.heap.size W3 (W3.drewN nq) := belowD (Below.refl _ _) nq
      have HSQ := Lib.hid (HS.out.under hq); have HB0Q := Lib.hid (HB0.out.under hq); have HB1Q := Lib.hid (HB1.out.under hq); have HBQ := Lib.hid (HB.out.trans (hq.mono HB.out.size))
      clear hq
      obtain ⟨N4, hN4⟩ : ∃ N, W3.heap.size = N := ⟨_, rfl⟩
      have hN4' : (W3.drewN nq).heap.size = N4 := hN4
      rw [hN4]
      generalize W3.drewN nq = Wq at HSQ HB0Q HB1Q HBQ hN4' ⊢
      obtain ⟨W4, hW4⟩ : ∃ W4, Wq.alloc (.cells #[.string ⟨#[107, 101, 121]⟩, .string ⟨#[118, 97, 108]⟩, .string ⟨#[97, 99, 99]⟩] 9) = W4 := ⟨_, rfl⟩
      have h4 : Below Wq.heap.size Wq W4 := by rw [← hW4]; exact (Below.refl _ _).alloc (Nat.le_refl _) _
      have HW4 : Hid (W4.heap[N4]? = some (.cells #[.string ⟨#[107, 101, 121]⟩, .string ⟨#[118, 97, 108]⟩, .string ⟨#[97, 99, 99]⟩] 9 (0, 0))) := by refine Lib.hid ?_; rw [← hW4]; exact heap_last hN4'.symm
      have HS4 := Lib.hid (HSQ.out.under h4); have HB04 := Lib.hid (HB0Q.out.under h4); have HB14 := Lib.hid (HB1Q.out.under h4); have HB4 := Lib.hid (HBQ.out.trans (h4.mono HBQ.out.size))
      rw [hW4]
      clear h4 hW4 hN4 hN4' HSQ HB0Q HB1Q HBQ
      go_loopg [5] 4 (fun g v5 wr => ∃ j : Nat, j ≤ 3 ∧ g + j = 4 ∧ v5 = .int .i64 (j : Int) ∧ Below W4.heap.size W4 wr ∧ NotYet S i j)
      case atStart => exact ⟨0, by omega, rfl, rfl, Below.refl _ _, fun k h => by omega⟩
      case round =>
        rename World => wr
        obtain ⟨j, hj, hg, rfl, hb, hny⟩ := hrel
        have HSR := Lib.hid (HS4.out.under hb); have HB0R := Lib.hid (HB04.out.under hb); have HB1R := Lib.hid (HB14.out.under hb); have HBR := Lib.hid (HB4.out.trans (hb.mono HB4.out.size))
        have hwr : wr.heap[N4]? = _ := (hb.block N4 (Array.getElem?_eq_some_iff.1 HW4.out).1).trans HW4.out
        have x0 : wr.cell? ⟨N4, 0, none⟩ = some (.string ⟨#[107, 101, 121]⟩) := cell_of hwr rfl
        have x1 : wr.cell? ⟨N4, 1, none⟩ = some (.string ⟨#[118, 97, 108]⟩) := cell_of hwr rfl
        have x2 : wr.cell? ⟨N4, 2, none⟩ = some (.string ⟨#[97, 99, 99]⟩) := cell_of hwr rfl
        have HNY := Lib.hid hny; have HBW := Lib.hid hb
        clear hb hwr hny
        rcases (show j = 0 ∨ j = 1 ∨ j = 2 ∨ j = 3 by omega) with rfl | rfl | rfl | rfl
        · by_cases hx : txt (S.at i) = wrd 0
          · have HI := Lib.hid (hI0.out wr HSR.out true (by simp [hx]))
            have hi' := Lib.hid (at_lt (S := S) (i := i) (by rw [hx]; decide))
            have HO := Lib.hid (oneP_word (f := f) HK2.out 0 (by decide) hx)
            clear hx
            go_wp2_with fail
            refine HI.out.mono ?_
            rintro e w1 ⟨rfl, hb1⟩
            have hr := HSR.out.under hb1
            obtain ⟨c0, c1, c2, c3, f1, f3⟩ := hr.cells
            have hi4 : (i : Int) < 400 := by have := hi'.out; have := hr.few; omega
            have hw1 : IntKind.i64.wrap ((i : Int) + 1) = (i : Int) + 1 := IntWalk.i64_in _ ⟨by omega, by omega⟩
            obtain ⟨wd, hwd⟩ : ∃ wd, w1.setCell ⟨S.rb, 1, none⟩ (.int .i64 ((i : Int) + 1)) = wd := ⟨_, rfl⟩
            obtain ⟨ed, rd, hp⟩ := leaf_ref (o := 2) (m := 0) (Only.of_below (HBR.out.trans (hb1.mono HBR.out.size))) HN.out (HB0R.out.under hb1) hr hi'.out hwd
            rw [← at_tail, ← HO.out, HOO.out] at hp
            have HP := Lib.hid hp
            obtain ⟨a1, a2, a3, a4, a5, a6⟩ := ed.cells
            clear hr hb1 ed rd hp
            go_wp2_with fail
            try rw [Exit.noGoto_ret]
            refine bodyPost_ret (v := .agg #[.int .u8 2, .int .i64 0, .slice none 0 0]) (by simp [results, Tryd.f62, go_sem, a1, a2, a3]) rfl HP.out
          · have HI := Lib.hid (hI0.out wr HSR.out false (by simp [hx]))
            have HX := Lib.hid hx
            clear hx
            go_wp2_with fail
            refine HI.out.mono ?_
            rintro e w1 ⟨rfl, hb1⟩
            have HBN := Lib.hid (HBW.out.trans (hb1.mono HBW.out.size)); clear hb1
            go_wp2_with fail
            go_roundg (gk - 1)
            case measure => omega
            case rel => exact ⟨1, by omega, by omega, by go_num, HBN.out, fun k hk => by
              by_cases h : k < 0
              · exact HNY.out k h
              · obtain rfl : k = 0 := by omega
                exact HX.out⟩
        · by_cases hx : txt (S.at i) = wrd 1
          · have HI := Lib.hid (hI1.out wr HSR.out true (by simp [hx]))
            have hi' := Lib.hid (at_lt (S := S) (i := i) (by rw [hx]; decide))
            have HO := Lib.hid (oneP_word (f := f) HK2.out 1 (by decide) hx)
            clear hx
            go_wp2_with fail
            refine HI.out.mono ?_
            rintro e w1 ⟨rfl, hb1⟩
            have hr := HSR.out.under hb1
            obtain ⟨c0, c1, c2, c3, f1, f3⟩ := hr.cells
            have hi4 : (i : Int) < 400 := by have := hi'.out; have := hr.few; omega
            have hw1 : IntKind.i64.wrap ((i : Int) + 1) = (i : Int) + 1 := IntWalk.i64_in _ ⟨by omega, by omega⟩
            obtain ⟨wd, hwd⟩ : ∃ wd, w1.setCell ⟨S.rb, 1, none⟩ (.int .i64 ((i : Int) + 1)) = wd := ⟨_, rfl⟩
            obtain ⟨ed, rd, hp⟩ := leaf_ref (o := 3) (m := 0) (Only.of_below (HBR.out.trans (hb1.mono HBR.out.size))) HN.out (HB0R.out.under hb1) hr hi'.out hwd
            rw [← at_tail, ← HO.out, HOO.out] at hp
            have HP := Lib.hid hp
            obtain ⟨a1, a2, a3, a4, a5, a6⟩ := ed.cells
            clear hr hb1 ed rd hp
            go_wp2_with fail
            try rw [Exit.noGoto_ret]
            refine bodyPost_ret (v := .agg #[.int .u8 3, .int .i64 0, .slice none 0 0]) (by simp [results, Tryd.f62, go_sem, a1, a2, a3]) rfl HP.out
          · have HI := Lib.hid (hI1.out wr HSR.out false (by simp [hx]))
            have HX := Lib.hid hx
            clear hx
            go_wp2_with fail
            refine HI.out.mono ?_
            rintro e w1 ⟨rfl, hb1⟩
            have HBN := Lib.hid (HBW.out.trans (hb1.mono HBW.out.size)); clear hb1
            go_wp2_with fail
            go_roundg (gk - 1)
            case measure => omega
            case rel => exact ⟨2, by omega, by omega, by go_num, HBN.out, fun k hk => by
              by_cases h : k < 1
              · exact HNY.out k h
              · obtain rfl : k = 1 := by omega
                exact HX.out⟩
        · by_cases hx : txt (S.at i) = wrd 2
          · have HI := Lib.hid (hI2.out wr HSR.out true (by simp [hx]))
            have hi' := Lib.hid (at_lt (S := S) (i := i) (by rw [hx]; decide))
            have HO := Lib.hid (oneP_word (f := f) HK2.out 2 (by decide) hx)
            clear hx
            go_wp2_with fail
            refine HI.out.mono ?_
            rintro e w1 ⟨rfl, hb1⟩
            have hr := HSR.out.under hb1
            obtain ⟨c0, c1, c2, c3, f1, f3⟩ := hr.cells
            have hi4 : (i : Int) < 400 := by have := hi'.out; have := hr.few; omega
            have hw1 : IntKind.i64.wrap ((i : Int) + 1) = (i : Int) + 1 := IntWalk.i64_in _ ⟨by omega, by omega⟩
            obtain ⟨wd, hwd⟩ : ∃ wd, w1.setCell ⟨S.rb, 1, none⟩ (.int .i64 ((i : Int) + 1)) = wd := ⟨_, rfl⟩
            obtain ⟨ed, rd, hp⟩ := leaf_ref (o := 4) (m := 0) (Only.of_below (HBR.out.trans (hb1.mono HBR.out.size))) HN.out (HB0R.out.under hb1) hr hi'.out hwd
            rw [← at_tail, ← HO.out, HOO.out] at hp
            have HP := Lib.hid hp
            obtain ⟨a1, a2, a3, a4, a5, a6⟩ := ed.cells
            clear hr hb1 ed rd hp
            go_wp2_with fail
            try rw [Exit.noGoto_ret]
            refine bodyPost_ret (v := .agg #[.int .u8 4, .int .i64 0, .slice none 0 0]) (by simp [results, Tryd.f62, go_sem, a1, a2, a3]) rfl HP.out
          · have HI := Lib.hid (hI2.out wr HSR.out false (by simp [hx]))
            have HX := Lib.hid hx
            clear hx
            go_wp2_with fail
            refine HI.out.mono ?_
            rintro e w1 ⟨rfl, hb1⟩
            have HBN := Lib.hid (HBW.out.trans (hb1.mono HBW.out.size)); clear hb1
            go_wp2_with fail
            go_roundg (gk - 1)
            case measure => omega
            case rel => exact ⟨3, by omega, by omega, by go_num, HBN.out, fun k hk => by
              by_cases h : k < 2
              · exact HNY.out k h
              · obtain rfl : k = 2 := by omega
                exact HX.out⟩
        · by_cases hx : txt (S.at i) = [40]
          · have HI := Lib.hid (hI3.out wr HSR.out true (by simp [hx]))
            have hi' := Lib.hid (at_lt (S := S) (i := i) (by rw [hx]; decide))
            have HO := Lib.hid (oneP_paren (f := f) HK2.out hx)
            clear hx
            go_wp2_with fail
            refine HI.out.mono ?_
            rintro e w1 ⟨rfl, hb1⟩
            have hr := HSR.out.under hb1
            obtain ⟨c0, c1, c2, c3, f1, f3⟩ := hr.cells
            have hi4 : (i : Int) < 400 := by have := hi'.out; have := hr.few; omega
            have hw1 : IntKind.i64.wrap ((i : Int) + 1) = (i : Int) + 1 := IntWalk.i64_in _ ⟨by omega, by omega⟩
            obtain ⟨wd, hwd⟩ : ∃ wd, w1.setCell ⟨S.rb, 1, none⟩ (.int .i64 ((i : Int) + 1)) = wd := ⟨_, rfl⟩
            have hod : Only (Mine S) w1 wd := by rw [← hwd]; exact Only.setCell _ _ _ _ rfl
            have HRD : Hid (Rt S wd (i + 1) (-1)) := by refine Lib.hid ?_; rw [← hwd]; exact hr.next hi'.out
            have HED := Lib.hid ((HB0R.out.under hb1).onlyT hod hr)
            have HOD := Lib.hid ((Only.of_below (HBR.out.trans (hb1.mono HBR.out.size))).then hod)
            have hsh : (S.at (i + 1)).length < (S.at i).length := by have := hi'.out; rw [at_len, at_len]; omega
            have HC := Lib.hid (HF.out wd (i + 1) HRD.out hsh)
            unfold ptr at HC
            clear hr hb1 hod hsh
            go_wp2_with fail
            refine HC.out.mono ?_
            rintro e w2 ⟨A, M, p, n, c, b2, i2, rfl, r2, ho2, ht2⟩
            obtain ⟨N6, hN6⟩ : ∃ N, w2.heap.size = N := ⟨_, rfl⟩
            obtain ⟨w3, hw3⟩ : ∃ w3, w2.alloc (.cells #[.int .u8 A, .int .i64 M, .slice p n c] 27) = w3 := ⟨_, rfl⟩
            have h23 : Below w2.heap.size w2 w3 := by rw [← hw3]; exact (Below.refl _ _).alloc (Nat.le_refl _) _
            have HM := Lib.hid (must_both (t := [41]) (okl (by decide)) (by decide) (T := ⟨#[41]⟩) rfl (r2.under h23) ht2.okb)
            unfold ptr at HM
            have HR2 := Lib.hid r2; have HO2 := Lib.hid ho2; have HT2 := Lib.hid ht2
            clear r2 ho2 ht2 h23
            go_wp2_with fail
            refine HM.out.mono ?_
            rintro e w4 ⟨b4, i4, rfl, r4, _, ho4, k1, k2, k3⟩
            obtain ⟨e4, g4, hp⟩ := paren_ref HOD.out HN.out HED.out.lt HED.out HRD.out HR2.out HO2.out HT2.out hN6 hw3 r4 ho4 k1 k2 k3
            have hp' : RPost S O w (.returned (.agg #[.int .u8 A, .int .i64 M, .slice p n c])) (exp.set3 w4 N0 A M p n c) := by
              rw [← HOO.out, HO.out, at_tail]
              exact hp
            have HP := Lib.hid hp'
            obtain ⟨a1, a2, a3, a4, a5, a6⟩ := e4.cells
            obtain ⟨z0, z1, z2, _⟩ := g4.cells
            clear e4 g4 hp hp' r4 ho4 k1 k2 k3
            go_wp2_with fail
            try rw [Exit.noGoto_ret]
            refine bodyPost_ret (v := .agg #[.int .u8 A, .int .i64 M, .slice p n c]) (by simp [results, Tryd.f62, go_sem, a1, a2, a3]) rfl HP.out
          · have HI := Lib.hid (hI3.out wr HSR.out false (by simp [hx]))
            have HO := Lib.hid (oneP_none (f := f) HK2.out HNY.out hx HIF.out)
            clear hx
            go_wp2_with fail
            refine HI.out.mono ?_
            rintro e w1 ⟨rfl, hb1⟩
            have HR1 := Lib.hid (HSR.out.under hb1); have H1 := Lib.hid hb1
            have HJ := Lib.hid (hI4.out w1 HR1.out false (by simp [HIF.out]))
            clear hb1
            go_wp2_with fail
            refine HJ.out.mono ?_
            rintro e w2 ⟨rfl, hb2⟩
            have HR2 := Lib.hid (HR1.out.under hb2); have H2 := Lib.hid (H1.out.trans (hb2.mono H1.out.size))
            have HA := Lib.hid (ref_at HR2.out)
            unfold ptr at HA
            clear hb2
            go_wp2_with fail
            refine HA.out.mono ?_
            rintro e w3 ⟨rfl, hb3⟩
            have hr := HR2.out.under hb3
            have h3 := H2.out.trans (hb3.mono H2.out.size)
            obtain ⟨c0, c1, c2, c3, f1, f3⟩ := hr.cells
            obtain ⟨wd, hwd⟩ : ∃ wd, w3.setCell ⟨S.rb, 3, none⟩ (.int .i64 (placeOf (S.at i) S.en : Int)) = wd := ⟨_, rfl⟩
            have hod : Only (Mine S) w3 wd := by rw [← hwd]; exact Only.setCell _ _ _ _ rfl
            obtain ⟨ed, hp⟩ := none_ref (Only.of_below (HBR.out.trans (h3.mono HBR.out.size))) HN.out (HB0R.out.under h3) hr hwd
            rw [← HO.out, HOO.out] at hp
            have HP := Lib.hid hp
            obtain ⟨a1, a2, a3, a4, a5, a6⟩ := ed.cells
            obtain ⟨z0, z1, z2, _⟩ := ((HB1R.out.under h3).onlyT hod hr).cells
            clear hr h3 ed hp hod hb3
            go_wp2_with fail
            refine bodyPost_ret (v := .agg #[.int .u8 0, .int .i64 0, .slice none 0 0]) (by simp [results, Tryd.f62, go_sem, a1, a2, a3]) rfl HP.out
    · rw [hnn] at c0 hi hfew
      have hin : ¬ (i : Int) < (nn : Int) := by omega
      clear ht hv' hnn hv hle hk2
      go_enter Tryd.func62, Tryd.ntmps62
      go_wp2_with fail
      go_quiet (fail)
      go_wp2_with fail
      have hq : Below W3.heap.size W3 (W3.drewN nq) := belowD (Below.refl _ _) nq
      have HSQ := Lib.hid (HS.out.under hq); have HB0Q := Lib.hid (HB0.out.under hq); have HB1Q := Lib.hid (HB1.out.under hq); have HBQ := Lib.hid (HB.out.trans (hq.mono HB.out.size))
      clear hq
      obtain ⟨N4, hN4⟩ : ∃ N, W3.heap.size = N := ⟨_, rfl⟩
      have hN4' : (W3.drewN nq).heap.size = N4 := hN4
      rw [hN4]
      generalize W3.drewN nq = Wq at HSQ HB0Q HB1Q HBQ hN4' ⊢
      obtain ⟨W4, hW4⟩ : ∃ W4, Wq.alloc (.cells #[.string ⟨#[107, 101, 121]⟩, .string ⟨#[118, 97, 108]⟩, .string ⟨#[97, 99, 99]⟩] 9) = W4 := ⟨_, rfl⟩
      have h4 : Below Wq.heap.size Wq W4 := by rw [← hW4]; exact (Below.refl _ _).alloc (Nat.le_refl _) _
      have HW4 : Hid (W4.heap[N4]? = some (.cells #[.string ⟨#[107, 101, 121]⟩, .string ⟨#[118, 97, 108]⟩, .string ⟨#[97, 99, 99]⟩] 9 (0, 0))) := by refine Lib.hid ?_; rw [← hW4]; exact heap_last hN4'.symm
      have HS4 := Lib.hid (HSQ.out.under h4); have HB04 := Lib.hid (HB0Q.out.under h4); have HB14 := Lib.hid (HB1Q.out.under h4); have HB4 := Lib.hid (HBQ.out.trans (h4.mono HBQ.out.size))
      rw [hW4]
      clear h4 hW4 hN4 hN4' HSQ HB0Q HB1Q HBQ
      go_loopg [5] 4 (fun g v5 wr => ∃ j : Nat, j ≤ 3 ∧ g + j = 4 ∧ v5 = .int .i64 (j : Int) ∧ Below W4.heap.size W4 wr ∧ NotYet S i j)
      case atStart => exact ⟨0, by omega, rfl, rfl, Below.refl _ _, fun k h => by omega⟩
      case round =>
        rename World => wr
        obtain ⟨j, hj, hg, rfl, hb, hny⟩ := hrel
        have HSR := Lib.hid (HS4.out.under hb); have HB0R := Lib.hid (HB04.out.under hb); have HB1R := Lib.hid (HB14.out.under hb); have HBR := Lib.hid (HB4.out.trans (hb.mono HB4.out.size))
        have hwr : wr.heap[N4]? = _ := (hb.block N4 (Array.getElem?_eq_some_iff.1 HW4.out).1).trans HW4.out
        have x0 : wr.cell? ⟨N4, 0, none⟩ = some (.string ⟨#[107, 101, 121]⟩) := cell_of hwr rfl
        have x1 : wr.cell? ⟨N4, 1, none⟩ = some (.string ⟨#[118, 97, 108]⟩) := cell_of hwr rfl
        have x2 : wr.cell? ⟨N4, 2, none⟩ = some (.string ⟨#[97, 99, 99]⟩) := cell_of hwr rfl
        have HNY := Lib.hid hny; have HBW := Lib.hid hb
        clear hb hwr hny
        rcases (show j = 0 ∨ j = 1 ∨ j = 2 ∨ j = 3 by omega) with rfl | rfl | rfl | rfl
        · by_cases hx : txt (S.at i) = wrd 0
          · have HI := Lib.hid (hI0.out wr HSR.out true (by simp [hx]))
            have hi' := Lib.hid (at_lt (S := S) (i := i) (by rw [hx]; decide))
            have HO := Lib.hid (oneP_word (f := f) HK2.out 0 (by decide) hx)
            clear hx
            go_wp2_with fail
            refine HI.out.mono ?_
            rintro e w1 ⟨rfl, hb1⟩
            have hr := HSR.out.under hb1
            obtain ⟨c0, c1, c2, c3, f1, f3⟩ := hr.cells
            have hi4 : (i : Int) < 400 := by have := hi'.out; have := hr.few; omega
            have hw1 : IntKind.i64.wrap ((i : Int) + 1) = (i : Int) + 1 := IntWalk.i64_in _ ⟨by omega, by omega⟩
            obtain ⟨wd, hwd⟩ : ∃ wd, w1.setCell ⟨S.rb, 1, none⟩ (.int .i64 ((i : Int) + 1)) = wd := ⟨_, rfl⟩
            obtain ⟨ed, rd, hp⟩ := leaf_ref (o := 2) (m := 0) (Only.of_below (HBR.out.trans (hb1.mono HBR.out.size))) HN.out (HB0R.out.under hb1) hr hi'.out hwd
            rw [← at_tail, ← HO.out, HOO.out] at hp
            have HP := Lib.hid hp
            obtain ⟨a1, a2, a3, a4, a5, a6⟩ := ed.cells
            clear hr hb1 ed rd hp
            go_wp2_with fail
            try rw [Exit.noGoto_ret]
            refine bodyPost_ret (v := .agg #[.int .u8 2, .int .i64 0, .slice none 0 0]) (by simp [results, Tryd.f62, go_sem, a1, a2, a3]) rfl HP.out
          · have HI := Lib.hid (hI0.out wr HSR.out false (by simp [hx]))
            have HX := Lib.hid hx
            clear hx
            go_wp2_with fail
            refine HI.out.mono ?_
            rintro e w1 ⟨rfl, hb1⟩
            have HBN := Lib.hid (HBW.out.trans (hb1.mono HBW.out.size)); clear hb1
            go_wp2_with fail
            go_roundg (gk - 1)
            case measure => omega
            case rel => exact ⟨1, by omega, by omega, by go_num, HBN.out, fun k hk => by
              by_cases h : k < 0
              · exact HNY.out k h
              · obtain rfl : k = 0 := by omega
                exact HX.out⟩
        · by_cases hx : txt (S.at i) = wrd 1
          · have HI := Lib.hid (hI1.out wr HSR.out true (by simp [hx]))
            have hi' := Lib.hid (at_lt (S := S) (i := i) (by rw [hx]; decide))
            have HO := Lib.hid (oneP_word (f := f) HK2.out 1 (by decide) hx)
            clear hx
            go_wp2_with fail
            refine HI.out.mono ?_
            rintro e w1 ⟨rfl, hb1⟩
            have hr := HSR.out.under hb1
            obtain ⟨c0, c1, c2, c3, f1, f3⟩ := hr.cells
            have hi4 : (i : Int) < 400 := by have := hi'.out; have := hr.few; omega
            have hw1 : IntKind.i64.wrap ((i : Int) + 1) = (i : Int) + 1 := IntWalk.i64_in _ ⟨by omega, by omega⟩
            obtain ⟨wd, hwd⟩ : ∃ wd, w1.setCell ⟨S.rb, 1, none⟩ (.int .i64 ((i : Int) + 1)) = wd := ⟨_, rfl⟩
            obtain ⟨ed, rd, hp⟩ := leaf_ref (o := 3) (m := 0) (Only.of_below (HBR.out.trans (hb1.mono HBR.out.size))) HN.out (HB0R.out.under hb1) hr hi'.out hwd
            rw [← at_tail, ← HO.out, HOO.out] at hp
            have HP := Lib.hid hp
            obtain ⟨a1, a2, a3, a4, a5, a6⟩ := ed.cells
            clear hr hb1 ed rd hp
            go_wp2_with fail
            try rw [Exit.noGoto_ret]
            refine bodyPost_ret (v := .agg #[.int .u8 3, .int .i64 0, .slice none 0 0]) (by simp [results, Tryd.f62, go_sem, a1, a2, a3]) rfl HP.out
          · have HI := Lib.hid (hI1.out wr HSR.out false (by simp [hx]))
            have HX := Lib.hid hx
            clear hx
            go_wp2_with fail
            refine HI.out.mono ?_
            rintro e w1 ⟨rfl, hb1⟩
            have HBN := Lib.hid (HBW.out.trans (hb1.mono HBW.out.size)); clear hb1
            go_wp2_with fail
            go_roundg (gk - 1)
            case measure => omega
            case rel => exact ⟨2, by omega, by omega, by go_num, HBN.out, fun k hk => by
              by_cases h : k < 1
              · exact HNY.out k h
              · obtain rfl : k = 1 := by omega
                exact HX.out⟩
        · by_cases hx : txt (S.at i) = wrd 2
          · have HI := Lib.hid (hI2.out wr HSR.out true (by simp [hx]))
            have hi' := Lib.hid (at_lt (S := S) (i := i) (by rw [hx]; decide))
            have HO := Lib.hid (oneP_word (f := f) HK2.out 2 (by decide) hx)
            clear hx
            go_wp2_with fail
            refine HI.out.mono ?_
            rintro e w1 ⟨rfl, hb1⟩
            have hr := HSR.out.under hb1
            obtain ⟨c0, c1, c2, c3, f1, f3⟩ := hr.cells
            have hi4 : (i : Int) < 400 := by have := hi'.out; have := hr.few; omega
            have hw1 : IntKind.i64.wrap ((i : Int) + 1) = (i : Int) + 1 := IntWalk.i64_in _ ⟨by omega, by omega⟩
            obtain ⟨wd, hwd⟩ : ∃ wd, w1.setCell ⟨S.rb, 1, none⟩ (.int .i64 ((i : Int) + 1)) = wd := ⟨_, rfl⟩
            obtain ⟨ed, rd, hp⟩ := leaf_ref (o := 4) (m := 0) (Only.of_below (HBR.out.trans (hb1.mono HBR.out.size))) HN.out (HB0R.out.under hb1) hr hi'.out hwd
            rw [← at_tail, ← HO.out, HOO.out] at hp
            have HP := Lib.hid hp
            obtain ⟨a1, a2, a3, a4, a5, a6⟩ := ed.cells
            clear hr hb1 ed rd hp
            go_wp2_with fail
            try rw [Exit.noGoto_ret]
            refine bodyPost_ret (v := .agg #[.int .u8 4, .int .i64 0, .slice none 0 0]) (by simp [results, Tryd.f62, go_sem, a1, a2, a3]) rfl HP.out
          · have HI := Lib.hid (hI2.out wr HSR.out false (by simp [hx]))
            have HX := Lib.hid hx
            clear hx
            go_wp2_with fail
            refine HI.out.mono ?_
            rintro e w1 ⟨rfl, hb1⟩
            have HBN := Lib.hid (HBW.out.trans (hb1.mono HBW.out.size)); clear hb1
            go_wp2_with fail
            go_roundg (gk - 1)
            case measure => omega
            case rel => exact ⟨3, by omega, by omega, by go_num, HBN.out, fun k hk => by
              by_cases h : k < 2
              · exact HNY.out k h
              · obtain rfl : k = 2 := by omega
                exact HX.out⟩
        · by_cases hx : txt (S.at i) = [40]
          · have HI := Lib.hid (hI3.out wr HSR.out true (by simp [hx]))
            have hi' := Lib.hid (at_lt (S := S) (i := i) (by rw [hx]; decide))
            have HO := Lib.hid (oneP_paren (f := f) HK2.out hx)
            clear hx
            go_wp2_with fail
            refine HI.out.mono ?_
            rintro e w1 ⟨rfl, hb1⟩
            have hr := HSR.out.under hb1
            obtain ⟨c0, c1, c2, c3, f1, f3⟩ := hr.cells
            have hi4 : (i : Int) < 400 := by have := hi'.out; have := hr.few; omega
            have hw1 : IntKind.i64.wrap ((i : Int) + 1) = (i : Int) + 1 := IntWalk.i64_in _ ⟨by omega, by omega⟩
            obtain ⟨wd, hwd⟩ : ∃ wd, w1.setCell ⟨S.rb, 1, none⟩ (.int .i64 ((i : Int) + 1)) = wd := ⟨_, rfl⟩
            have hod : Only (Mine S) w1 wd := by rw [← hwd]; exact Only.setCell _ _ _ _ rfl
            have HRD : Hid (Rt S wd (i + 1) (-1)) := by refine Lib.hid ?_; rw [← hwd]; exact hr.next hi'.out
            have HED := Lib.hid ((HB0R.out.under hb1).onlyT hod hr)
            have HOD := Lib.hid ((Only.of_below (HBR.out.trans (hb1.mono HBR.out.size))).then hod)
            have hsh : (S.at (i + 1)).length < (S.at i).length := by have := hi'.out; rw [at_len, at_len]; omega
            have HC := Lib.hid (HF.out wd (i + 1) HRD.out hsh)
            unfold ptr at HC
            clear hr hb1 hod hsh
            go_wp2_with fail
            refine HC.out.mono ?_
            rintro e w2 ⟨A, M, p, n, c, b2, i2, rfl, r2, ho2, ht2⟩
            obtain ⟨N6, hN6⟩ : ∃ N, w2.heap.size = N := ⟨_, rfl⟩
            obtain ⟨w3, hw3⟩ : ∃ w3, w2.alloc (.cells #[.int .u8 A, .int .i64 M, .slice p n c] 27) = w3 := ⟨_, rfl⟩
            have h23 : Below w2.heap.size w2 w3 := by rw [← hw3]; exact (Below.refl _ _).alloc (Nat.le_refl _) _
            have HM := Lib.hid (must_both (t := [41]) (okl (by decide)) (by decide) (T := ⟨#[41]⟩) rfl (r2.under h23) ht2.okb)
            unfold ptr at HM
            have HR2 := Lib.hid r2; have HO2 := Lib.hid ho2; have HT2 := Lib.hid ht2
            clear r2 ho2 ht2 h23
            go_wp2_with fail
            refine HM.out.mono ?_
            rintro e w4 ⟨b4, i4, rfl, r4, _, ho4, k1, k2, k3⟩
            obtain ⟨e4, g4, hp⟩ := paren_ref HOD.out HN.out HED.out.lt HED.out HRD.out HR2.out HO2.out HT2.out hN6 hw3 r4 ho4 k1 k2 k3
            have hp' : RPost S O w (.returned (.agg #[.int .u8 A, .int .i64 M, .slice p n c])) (exp.set3 w4 N0 A M p n c) := by
              rw [← HOO.out, HO.out, at_tail]
              exact hp
            have HP := Lib.hid hp'
            obtain ⟨a1, a2, a3, a4, a5, a6⟩ := e4.cells
            obtain ⟨z0, z1, z2, _⟩ := g4.cells
            clear e4 g4 hp hp' r4 ho4 k1 k2 k3
            go_wp2_with fail
            try rw [Exit.noGoto_ret]
            refine bodyPost_ret (v := .agg #[.int .u8 A, .int .i64 M, .slice p n c]) (by simp [results, Tryd.f62, go_sem, a1, a2, a3]) rfl HP.out
          · have HI := Lib.hid (hI3.out wr HSR.out false (by simp [hx]))
            have HO := Lib.hid (oneP_none (f := f) HK2.out HNY.out hx HIF.out)
            clear hx
            go_wp2_with fail
            refine HI.out.mono ?_
            rintro e w1 ⟨rfl, hb1⟩
            have HR1 := Lib.hid (HSR.out.under hb1); have H1 := Lib.hid hb1
            have HJ := Lib.hid (hI4.out w1 HR1.out false (by simp [HIF.out]))
            clear hb1
            go_wp2_with fail
            refine HJ.out.mono ?_
            rintro e w2 ⟨rfl, hb2⟩
            have HR2 := Lib.hid (HR1.out.under hb2); have H2 := Lib.hid (H1.out.trans (hb2.mono H1.out.size))
            have HA := Lib.hid (ref_at HR2.out)
            unfold ptr at HA
            clear hb2
            go_wp2_with fail
            refine HA.out.mono ?_
            rintro e w3 ⟨rfl, hb3⟩
            have hr := HR2.out.under hb3
            have h3 := H2.out.trans (hb3.mono H2.out.size)
            obtain ⟨c0, c1, c2, c3, f1, f3⟩ := hr.cells
            obtain ⟨wd, hwd⟩ : ∃ wd, w3.setCell ⟨S.rb, 3, none⟩ (.int .i64 (placeOf (S.at i) S.en : Int)) = wd := ⟨_, rfl⟩
            have hod : Only (Mine S) w3 wd := by rw [← hwd]; exact Only.setCell _ _ _ _ rfl
            obtain ⟨ed, hp⟩ := none_ref (Only.of_below (HBR.out.trans (h3.mono HBR.out.size))) HN.out (HB0R.out.under h3) hr hwd
            rw [← HO.out, HOO.out] at hp
            have HP := Lib.hid hp
            obtain ⟨a1, a2, a3, a4, a5, a6⟩ := ed.cells
            obtain ⟨z0, z1, z2, _⟩ := ((HB1R.out.under h3).onlyT hod hr).cells
            clear hr h3 ed hp hod hb3
            go_wp2_with fail
            refine bodyPost_ret (v := .agg #[.int .u8 0, .int .i64 0, .slice none 0 0]) (by simp [results, Tryd.f62, go_sem, a1, a2, a3]) rfl HP.out
end Go.Proofs.YtffhmbiamkbchaaDoor.exp

/- The reference's reader of tokens in memory: what at and is answer. The reference's reader: what must does. -/
import Derived.Test.YtffhmbiamkbchaaDoorMVx
section
namespace Go.Proofs.YtffhmbiamkbchaaDoor.exp
set_option linter.unusedSimpArgs false
set_option linter.unusedVariables false
open Go.RowKit nam lex

/-- It stands at token i, and it went wrong there, or nowhere (-1). -/
structure Rt (S : Src) (w : World) (i : Nat) (bd : Int) : Prop where
  row : Toks w S.B S.tv S.toks
  box : w.heap[S.rb]? = some (.cells #[S.tv, .int .i64 (i : Int), .int .i64 (S.en : Int), .int .i64 bd] 63 (0, 0))
  le : i ≤ S.toks.length
  few : S.toks.length ≤ 400
  ok : ∀ t ∈ S.toks, TokOk t
theorem Rt.lt {S : Src} {w : World} {i : Nat} {bd : Int} (h : Rt S w i bd) : S.rb < w.heap.size := (Array.getElem?_eq_some_iff.1 h.box).1
theorem Rt.frame {S : Src} {w w' : World} {i : Nat} {bd : Int} (h : Rt S w i bd) (hf : ∀ b, b < w.heap.size → w'.heap[b]? = w.heap[b]?) : Rt S w' i bd := by
  refine ⟨?_, (hf _ h.lt).trans h.box, h.le, h.few, h.ok⟩
  rcases h.row with ⟨h2, h3 | ⟨g, cap, cur, h4, h5, h6, h7⟩⟩
  · exact ⟨h2, .inl h3⟩
  · exact ⟨h2, .inr ⟨g, cap, cur, h4, h5, (hf g (Array.getElem?_eq_some_iff.1 h6).1).trans h6, h7⟩⟩
theorem Rt.under {S : Src} {w w' : World} {i : Nat} {bd : Int} (h : Rt S w i bd) (hb : Below w.heap.size w w') : Rt S w' i bd := h.frame fun b hb' => hb.block b hb'
theorem Rt.rowSet {S : Src} {w : World} {i : Nat} {bd : Int} (h : Rt S w i bd) (o : Nat) (v : Value) : Toks (w.setCell ⟨S.rb, o, none⟩ v) S.B S.tv S.toks := by
  rcases h.row with ⟨h2, h3 | ⟨g, cap, cur, h4, h5, h6, h7⟩⟩
  · exact ⟨h2, .inl h3⟩
  · have hne : g ≠ S.rb := by
      rintro rfl
      have := h.box
      rw [h6] at this
      simp at this
    exact ⟨h2, .inr ⟨g, cap, cur, h4, h5, (Below.heap_setCell w ⟨S.rb, o, none⟩ _ g hne).trans h6, h7⟩⟩
theorem Rt.next {S : Src} {w : World} {i : Nat} {bd : Int} (h : Rt S w i bd) (hi : i < S.toks.length) : Rt S (w.setCell ⟨S.rb, 1, none⟩ (.int .i64 ((i : Int) + 1))) (i + 1) bd := by
  rw [show ((i : Int) + 1) = ((i + 1 : Nat) : Int) by omega]
  exact ⟨h.rowSet _ _, heap_setCell_same w S.rb 1 _ 63 _ h.box, hi, h.few, h.ok⟩
theorem Rt.wrong {S : Src} {w : World} {i : Nat} {bd : Int} (h : Rt S w i bd) (bd' : Int) : Rt S (w.setCell ⟨S.rb, 3, none⟩ (.int .i64 bd')) i bd' :=
  ⟨h.rowSet _ _, heap_setCell_same w S.rb 3 _ 63 _ h.box, h.le, h.few, h.ok⟩
theorem Rt.cells {S : Src} {w : World} {i : Nat} {bd : Int} (h : Rt S w i bd) : w.cell? ⟨S.rb, 0, none⟩ = some S.tv ∧ w.cell? ⟨S.rb, 1, none⟩ = some (.int .i64 (i : Int)) ∧ w.cell? ⟨S.rb, 2, none⟩ = some (.int .i64 (S.en : Int)) ∧ w.cell? ⟨S.rb, 3, none⟩ = some (.int .i64 bd) ∧
    w.frozen? ⟨S.rb, 1, none⟩ = false ∧ w.frozen? ⟨S.rb, 3, none⟩ = false :=
  ⟨cell_of h.box rfl, cell_of h.box rfl, cell_of h.box rfl, cell_of h.box rfl, by simp [World.frozen?, h.box], by simp [World.frozen?, h.box]⟩
theorem Rt.at_ok {S : Src} {w : World} {i : Nat} {bd : Int} (h : Rt S w i bd) : ∀ r ∈ txt (S.at i), okR r := by
  by_cases hi : i < S.toks.length
  · rw [at_cons hi]
    exact (h.ok _ (List.getElem_mem hi)).ok
  · rw [at_nil (by have := h.le; omega)]
    intro r hr
    cases hr
theorem belowD {B : Nat} {a w : World} (h : Below B a w) (n : Nat) : Below B a (w.drewN n) := ⟨h.os, h.tape, h.output, h.size, h.block⟩
/-- What is read of the tokens. -/
theorem Rt.tok {S : Src} {w : World} {i : Nat} {bd : Int} (h : Rt S w i bd) : ∃ (a : Option Addr) (c : Nat), S.tv = .slice a S.toks.length c ∧ (∀ (hi : i < S.toks.length), ∃ g, a = some ⟨g, 0, none⟩ ∧
    w.cell? ⟨g, i * 4, none⟩ = some (.int .u8 (S.toks[i].kind : Int)) ∧ w.cell? ⟨g, i * 4 + 1, none⟩ = some (.string (textOf S.toks[i].text)) ∧ w.cell? ⟨g, i * 4 + 2, none⟩ = some (.int .i64 (S.toks[i].n : Int)) ∧ w.cell? ⟨g, i * 4 + 3, none⟩ = some (.int .i64 (S.toks[i].place : Int))) := by
  obtain ⟨a, c, hv, ha⟩ := toks_form h.row
  refine ⟨a, c, hv, fun hi => ?_⟩
  obtain ⟨g, rfl⟩ := ha (by omega)
  have hrow := h.row
  rw [hv] at hrow
  have hr := toks_range (j := i) (t := S.toks[i]) hrow (by omega) (by simp [hi])
  exact ⟨g, rfl, hr 0 _ rfl, hr 1 _ rfl, hr 2 _ rfl, hr 3 _ rfl⟩

set_option maxHeartbeats 1600000 in
set_option maxRecDepth 1000000 in
theorem ref_at {S : Src} {w : World} {i : Nat} {bd : Int} (h : Rt S w i bd) : Calls Tryd.prog 29 #[ptr S.rb] w fun e w' => e = .returned (.int .i64 (placeOf (S.at i) S.en : Int)) ∧ Below w.heap.size w w' := by
  obtain ⟨c0, c1, c2, c3, _⟩ := h.cells
  obtain ⟨a, c, hv, ht⟩ := h.tok
  have hfew := h.few
  have hle := h.le
  rw [hv] at c0
  unfold ptr
  have HB : Hid (∀ k, Below w.heap.size w (w.drewN k)) := Lib.hid (fun k => ⟨rfl, rfl, rfl, Nat.le_refl _, fun _ _ => rfl⟩)
  obtain ⟨n, hn⟩ : ∃ n, S.toks.length = n := ⟨_, rfl⟩
  by_cases hi : i < S.toks.length
  · obtain ⟨g, rfl, e0, e1, e2, e3⟩ := ht hi
    have hA : placeOf (S.at i) S.en = S.toks[i].place := by rw [at_cons hi]; rfl
    rw [hA]
    generalize S.toks[i] = t at e0 e1 e2 e3
    rw [hn] at c0 hfew hle hi
    have hin : (i : Int) < (n : Int) := by omega
    have hHN := Lib.hid hn
    clear h ht hA hn hv
    go_enter Tryd.func29, Tryd.ntmps29
    go_wp2_with fail
    go_quiet (fail)
    go_wp2_with fail
    go_quiet (fail)
    go_wp2_with fail
    go_ret
    exact ⟨rfl, belowD (belowD (Below.refl _ _) _) _⟩
  · have hA : placeOf (S.at i) S.en = S.en := by rw [at_nil (by omega)]; rfl
    rw [hA]
    rw [hn] at c0 hfew hle hi
    have hin : ¬ (i : Int) < (n : Int) := by omega
    have hHN := Lib.hid hn
    clear h ht hA hn hv
    go_enter Tryd.func29, Tryd.ntmps29
    go_wp2_with fail
    go_quiet (fail)
    go_wp2_with fail
    go_ret
    exact ⟨rfl, HB.out _⟩

/-- The cells that is reads, named. -/
structure Seen (w : World) (rb i n c : Nat) (en bd : Int) (g : Nat) (t : Tok) : Prop where
  c0 : w.cell? ⟨rb, 0, none⟩ = some (.slice (some ⟨g, 0, none⟩) n c)
  c1 : w.cell? ⟨rb, 1, none⟩ = some (.int .i64 (i : Int))
  c3 : w.cell? ⟨rb, 3, none⟩ = some (.int .i64 bd)
  e0 : w.cell? ⟨g, i * 4, none⟩ = some (.int .u8 (t.kind : Int))
  e1 : w.cell? ⟨g, i * 4 + 1, none⟩ = some (.string (textOf t.text))
def isB (bd : Int) (l : List Tok) (t : List Nat) : Bool := decide (bd < 0 ∧ txt l = t)
set_option maxHeartbeats 1600000 in
set_option maxRecDepth 1000000 in
theorem ref_is {S : Src} {w : World} {i : Nat} {bd : Int} (h : Rt S w i bd) {t : List Nat} (hto : ∀ r ∈ t, okR r) (htn : t ≠ []) {T : ByteArray} (hT : textOf t = T) :
    Calls Tryd.prog 61 #[ptr S.rb, .string T] w fun e w' => e = .returned (.bool (isB bd (S.at i) t)) ∧ Below w.heap.size w w' := by
  obtain ⟨c0, c1, c2, c3, _⟩ := h.cells
  obtain ⟨a, c, hv, ht⟩ := h.tok
  have hfew := h.few
  have hle := h.le
  rw [hv] at c0
  unfold ptr
  obtain ⟨n, hn⟩ : ∃ n, S.toks.length = n := ⟨_, rfl⟩
  by_cases hb : bd < 0
  · by_cases hi : i < S.toks.length
    · obtain ⟨g, rfl, e0, e1, _⟩ := ht hi
      have hok := h.ok S.toks[i] (List.getElem_mem hi)
      have hA : txt (S.at i) = S.toks[i].text := by rw [at_cons hi]; rfl
      unfold isB
      rw [hA]
      generalize S.toks[i] = u at e0 e1 hok
      rw [hn] at c0 hfew hle hi
      have hin : (i : Int) < (n : Int) := by omega
      have hHN := Lib.hid hn
      clear h ht hA hn hv
      by_cases hk : u.kind = 2
      · have hD : decide (bd < 0 ∧ u.text = t) = false := by rw [hok.two hk]; simp; intro _ e; exact htn e
        rw [hD]
        have hk2 : ((u.kind : Int) != 2) = false := by simp [hk]
        clear hok hk hD
        go_enter Tryd.func61, Tryd.ntmps61
        go_wp2_with fail
        go_quiet (fail)
        go_wp2_with fail
        go_ret
        exact ⟨rfl, belowD (Below.refl _ _) _⟩
      · have hk2 : ((u.kind : Int) != 2) = true := by simp; omega
        by_cases he : u.text = t
        · have hD : decide (bd < 0 ∧ u.text = t) = true := by simp [he, hb]
          have hx := str_eq (a := textOf u.text) (b := T) (by rw [he, hT])
          rw [hD]
          generalize textOf u.text = X at e1 hx
          clear hok hk hD he
          go_enter Tryd.func61, Tryd.ntmps61
          go_wp2_with fail
          go_quiet (fail)
          go_wp2_with fail
          go_ret
          exact ⟨rfl, belowD (Below.refl _ _) _⟩
        · have hD : decide (bd < 0 ∧ u.text = t) = false := by simp [he]
          have hx := str_ne (txt_ne' hok.ok hto hT he)
          rw [hD]
          generalize textOf u.text = X at e1 hx
          clear hok hk hD he
          go_enter Tryd.func61, Tryd.ntmps61
          go_wp2_with fail
          go_quiet (fail)
          go_wp2_with fail
          go_ret
          exact ⟨rfl, belowD (Below.refl _ _) _⟩
    · have hA : isB bd (S.at i) t = false := by unfold isB; rw [at_nil (by omega)]; simp [txt]; intro _ e; exact htn e
      rw [hA]
      rw [hn] at c0 hfew hle hi
      have hin : ¬ (i : Int) < (n : Int) := by omega
      have hHN := Lib.hid hn
      clear h ht hA hn hv
      go_enter Tryd.func61, Tryd.ntmps61
      go_wp2_with fail
      go_quiet (fail)
      go_wp2_with fail
      go_ret
      exact ⟨rfl, belowD (Below.refl _ _) _⟩
  · have hA : isB bd (S.at i) t = false := by unfold isB; simp [hb]
    rw [hA]
    have hb0 : decide (bd < 0) = false := decide_eq_false hb
    have hb1 : 0 ≤ bd := by omega
    have hb2 : (bd < 0) = False := eq_false hb
    clear h ht hA hn hv
    go_enter Tryd.func61, Tryd.ntmps61
    go_wp2_with fail
    go_quiet (fail)
    go_wp2_with fail
    go_ret
    exact ⟨rfl, belowD (Below.refl _ _) _⟩
end Go.Proofs.YtffhmbiamkbchaaDoor.exp
end
section
namespace Go.Proofs.YtffhmbiamkbchaaDoor.exp
set_option linter.unusedSimpArgs false
set_option linter.unusedVariables false
open Go.RowKit nam lex

theorem Only.under {F : Nat → Prop} {a b c : World} (h : Below a.heap.size a b) (k : Only F b c) : Only F a c := (Only.of_below h).then k
set_option maxRecDepth 1000000 in
theorem must_yes {S : Src} {w : World} {i : Nat} {bd : Int} (h : Rt S w i bd) (hb : bd < 0) {t : List Nat} (hto : ∀ r ∈ t, okR r) (htn : t ≠ []) {T : ByteArray} (hT : textOf t = T) (hx : txt (S.at i) = t) :
    Calls Tryd.prog 77 #[ptr S.rb, .string T] w fun e w' => e = .returned (.tuple #[]) ∧ Rt S w' (i + 1) bd ∧ Only (Mine S) w w' := by
  have hi : i < S.toks.length := at_lt (by rw [hx]; exact htn)
  have hfew := h.few
  have hi6 : (i : Int) < 400 := by omega
  have HI := Lib.hid (ref_is h hto htn hT)
  have hd : isB bd (S.at i) t = true := by unfold isB; simp [hb, hx]
  rw [hd] at HI
  have HR := Lib.hid h
  unfold ptr at *
  clear h hx hd
  go_enter Tryd.func77, Tryd.ntmps77
  go_wp2_with fail
  refine HI.out.mono ?_
  rintro e w1 ⟨rfl, hb1⟩
  have hr := HR.out.under hb1
  obtain ⟨c0, c1, c2, c3, f1, f3⟩ := hr.cells
  have HB1 := Lib.hid hb1; have HR1 := Lib.hid hr
  clear hb1 hr
  have hw1 : IntKind.i64.wrap ((i : Int) + 1) = (i : Int) + 1 := IntWalk.i64_in _ ⟨by omega, by omega⟩
  go_wp2_with fail
  exact bodyPost_ret (v := .tuple #[]) (by simp [results, Tryd.results77, go_sem]) rfl ⟨rfl, HR1.out.next hi, Only.under HB1.out (Only.setCell _ _ _ _ rfl)⟩
set_option maxRecDepth 1000000 in
theorem must_no {S : Src} {w : World} {i : Nat} {bd : Int} (h : Rt S w i bd) (hb : bd < 0) {t : List Nat} (hto : ∀ r ∈ t, okR r) (htn : t ≠ []) {T : ByteArray} (hT : textOf t = T) (hx : txt (S.at i) ≠ t) :
    Calls Tryd.prog 77 #[ptr S.rb, .string T] w fun e w' => e = .returned (.tuple #[]) ∧ Rt S w' i (placeOf (S.at i) S.en : Int) ∧ Only (Mine S) w w' := by
  have HI := Lib.hid (ref_is h hto htn hT)
  have hd : isB bd (S.at i) t = false := by unfold isB; simp [hx]
  rw [hd] at HI
  have HR := Lib.hid h
  unfold ptr at *
  clear h hx hd
  go_enter Tryd.func77, Tryd.ntmps77
  go_wp2_with fail
  refine HI.out.mono ?_
  rintro e w1 ⟨rfl, hb1⟩
  have hr := HR.out.under hb1
  obtain ⟨c0, c1, c2, c3, f1, f3⟩ := hr.cells
  have HA := Lib.hid (ref_at hr)
  unfold ptr at HA
  have HB1 := Lib.hid hb1; have HR1 := Lib.hid hr
  clear hb1 hr
  go_wp2_with fail
  refine HA.out.mono ?_
  rintro e w2 ⟨rfl, hb2⟩
  have hr := HR1.out.under hb2
  obtain ⟨c0, c1, c2, c3, f1, f3⟩ := hr.cells
  have HB2 := Lib.hid (HB1.out.trans (hb2.mono HB1.out.size)); have HR2 := Lib.hid hr
  clear hb2 hr
  go_wp2_with fail
  exact bodyPost_end (v := .tuple #[]) (by simp [results, Tryd.results77, go_sem]) rfl ⟨rfl, HR2.out.wrong _, Only.under HB2.out (Only.setCell _ _ _ _ rfl)⟩
set_option maxRecDepth 1000000 in
theorem must_off {S : Src} {w : World} {i : Nat} {bd : Int} (h : Rt S w i bd) (hb : ¬ bd < 0) {t : List Nat} (hto : ∀ r ∈ t, okR r) (htn : t ≠ []) {T : ByteArray} (hT : textOf t = T) :
    Calls Tryd.prog 77 #[ptr S.rb, .string T] w fun e w' => e = .returned (.tuple #[]) ∧ Rt S w' i bd ∧ Below w.heap.size w w' := by
  have HI := Lib.hid (ref_is h hto htn hT)
  have hd : isB bd (S.at i) t = false := by unfold isB; simp [hb]
  rw [hd] at HI
  have HR := Lib.hid h
  have hb2 : (bd < 0) = False := eq_false hb
  have hb0 : decide (bd < 0) = false := decide_eq_false hb
  unfold ptr at *
  clear h hd
  go_enter Tryd.func77, Tryd.ntmps77
  go_wp2_with fail
  refine HI.out.mono ?_
  rintro e w1 ⟨rfl, hb1⟩
  have hr := HR.out.under hb1
  obtain ⟨c0, c1, c2, c3, f1, f3⟩ := hr.cells
  have HB1 := Lib.hid hb1; have HR1 := Lib.hid hr
  clear hb1 hr
  go_wp2_with fail
  exact bodyPost_end (v := .tuple #[]) (by simp [results, Tryd.results77, go_sem]) rfl ⟨rfl, HR1.out, HB1.out⟩
end Go.Proofs.YtffhmbiamkbchaaDoor.exp
end

/- LexBlanks returns true of every text and either blank, in whatever world where the library's table stands. -/
import Derived.Test.YtejcgkchlehoiaaDoorLxBa
import Derived.Test.YtejcgkchlehoiaaDoorLxBf
namespace Go.Proofs.YtejcgkchlehoiaaDoor.lex
set_option linter.unusedSimpArgs false
set_option linter.unusedVariables false
open Go.RowKit nam

/-- The local token. -/
def TB (w : World) (b : Nat) (t : Tok) : Prop := w.heap[b]? = some (.cells #[.int .u8 t.kind, .string (textOf t.text), .int .i64 t.n, .int .i64 t.place] 29 (0, 0))
theorem TB.cells {w : World} {b : Nat} {t : Tok} (h : TB w b t) : w.cell? ⟨b, 0, none⟩ = some (.int .u8 t.kind) ∧ w.cell? ⟨b, 1, none⟩ = some (.string (textOf t.text)) ∧ w.cell? ⟨b, 2, none⟩ = some (.int .i64 t.n) ∧ w.cell? ⟨b, 3, none⟩ = some (.int .i64 t.place) ∧ (∀ j, w.frozen? ⟨b, j, none⟩ = false) :=
  ⟨cell_of_row w b 0 _ _ (0, 0) h, cell_of_row w b 1 _ _ (0, 0) h, cell_of_row w b 2 _ _ (0, 0) h, cell_of_row w b 3 _ _ (0, 0) h, fun j => frozen_of_row w b j _ _ h⟩
theorem TB.range {w : World} {b : Nat} {t : Tok} (h : TB w b t) : w.rangeAt b 0 (tokV t) := by
  obtain ⟨h0, h1, h2, h3, _⟩ := h.cells
  intro j v hj
  match j, hj with
  | 0, hj => rw [Nat.zero_add]; exact h0.trans hj
  | 1, hj => exact h1.trans hj
  | 2, hj => exact h2.trans hj
  | 3, hj => exact h3.trans hj
/-- A token of the second row is the first row's, but for its place. -/
theorem same_tok {l m : List Tok} (h : m.map bare = l.map bare) {k : Nat} {t : Tok} (ht : l[k]? = some t) : ∃ q, m[k]? = some ⟨t.kind, t.text, t.n, q⟩ := by
  have h2 := congrArg (·[k]?) h
  simp only [List.getElem?_map, ht, Option.map_some] at h2
  obtain ⟨x, hx, he⟩ := Option.map_eq_some_iff.1 h2
  obtain ⟨a, b, c, d⟩ := x
  unfold bare at he
  simp only [Tok.mk.injEq, and_true] at he
  obtain ⟨rfl, rfl, rfl⟩ := he
  exact ⟨d, hx⟩
theorem place_rises {l : List Tok} (h : l.Pairwise (fun a b => a.place < b.place)) {j : Nat} {a b : Tok} (ha : l[j]? = some a) (hb : l[j + 1]? = some b) : a.place < b.place := by
  obtain ⟨h1, rfl⟩ := List.getElem?_eq_some_iff.1 ha
  obtain ⟨h2, rfl⟩ := List.getElem?_eq_some_iff.1 hb
  exact List.pairwise_iff_getElem.1 h j (j + 1) h1 h2 (by omega)

set_option maxHeartbeats 4000000 in
set_option maxRecDepth 1000000 in
theorem law_blanks (s : ByteArray) (tab : Bool) (hs : s.size ≤ maxLen) (w : World) (htab : Tab w) : Calls Tryd.prog 3 #[.string s, .bool tab] w fun e w' => e = .returned (.bool true) ∧ Below w.heap.size w w' := by
  unfold maxLen at hs
  have HTAB := Lib.hid htab
  clear htab
  obtain ⟨l, p, c, h1⟩ : ∃ l p c, toksO s = (l, p, c) := ⟨_, _, _, rfl⟩
  have HT1 := Lib.hid (fun w => tokens_of h1 w)
  by_cases hl : 5000 < s.size
  · have hl' : (5000 : Int) < (s.size : Int) := by omega
    clear hs hl h1
    go_enter Tryd.func3, Tryd.ntmps3
    go_wp2_with fail
    refine (HT1.out _).mono ?_
    rintro e w1 ⟨v1, rfl, _, hb⟩
    have HB := Lib.hid hb; clear hb
    go_wp2_with fail
    refine (works_any _).mono ?_
    rintro e w2 ⟨rfl, hb⟩
    have HB := Lib.hid (below_on' HB.out hb); clear hb
    go_wp2_with fail
    go_ret
    exact ⟨rfl, HB.out⟩
  have hl' : ¬ (5000 : Int) < (s.size : Int) := by omega
  by_cases hc : c = 0
  case neg =>
    have hcb : (c != 0) = true := by simpa using hc
    clear hs hl h1 hc
    go_enter Tryd.func3, Tryd.ntmps3
    go_wp2_with fail
    refine (HT1.out _).mono ?_
    rintro e w1 ⟨v1, rfl, _, hb⟩
    have HB := Lib.hid hb; clear hb
    go_wp2_with fail
    refine (works_any _).mono ?_
    rintro e w2 ⟨rfl, hb⟩
    have HB := Lib.hid (below_on' HB.out hb); clear hb
    go_wp2_with fail
    go_ret
    exact ⟨rfl, HB.out⟩
  subst hc
  have hgood := toks_good s
  have hfew := toks_few s
  rw [h1] at hgood hfew
  dsimp only at hgood hfew
  obtain ⟨hrise, hgd0⟩ := hgood
  have HRISE := Lib.hid hrise; have HGD := Lib.hid hgd0
  obtain ⟨n, hn⟩ : ∃ n, l.length = n := ⟨_, rfl⟩
  have HN := Lib.hid hn
  rw [hn] at hfew
  clear hs hl h1 hrise hgd0 hn
  have HBK : Hid ((tab = true → (⟨#[9, 32]⟩ : ByteArray) = textOf (blkR tab)) ∧ (tab = false → (⟨#[32]⟩ : ByteArray) = textOf (blkR tab))) := Lib.hid ⟨fun h => by subst h; rfl, fun h => by subst h; rfl⟩
  obtain ⟨R, hR⟩ : ∃ R, textOf (toldR tab l) = R := ⟨_, rfl⟩
  have HR := Lib.hid hR
  clear hR
  have HXT := Lib.hid (fun (w : World) (v : Value) (B : Nat) (h : Toks w B v l) (ht : Tab w) => text_any tab h HGD.out (by rw [HN.out]; exact hfew) ht)
  cases tab with
  | true =>
    go_enter Tryd.func3, Tryd.ntmps3
    go_wp2_with fail
    refine (HT1.out _).mono ?_
    rintro e w1 ⟨v1, rfl, ht1, hb⟩
    have HB := Lib.hid hb; have HV1 := Lib.hid ht1; clear hb ht1
    go_wp2_with fail
    refine (HXT.out _ v1 _ HV1.out (HTAB.out.on HB.out)).mono ?_
    rintro e w2 ⟨rfl, hb⟩
    rw [HR.out]
    have HV1 := Lib.hid (toks_below HV1.out hb)
    have HB := Lib.hid (below_on' HB.out hb); clear hb
    by_cases hbig : 400 < R.size
    · have hbig' : (400 : Int) < (R.size : Int) := by omega
      have HTB := Lib.hid (fun w => tokens_of (s := R) (l := []) (p := 0) (c := 3) (by unfold toksO; rw [if_pos hbig]) w)
      clear hbig
      go_wp2_with fail
      refine (HTB.out _).mono ?_
      rintro e w3 ⟨v2, rfl, _, hb⟩
      have HB := Lib.hid (below_on' HB.out hb); clear hb
      go_wp2_with fail
      refine (works_any _).mono ?_
      rintro e w4 ⟨rfl, hb⟩
      have HB := Lib.hid (below_on' HB.out hb); clear hb
      go_wp2_with fail
      go_ret
      exact ⟨rfl, HB.out⟩
    · have hbig' : ¬ (400 : Int) < (R.size : Int) := by omega
      obtain ⟨m, hm1, hm2, hm3⟩ := blanks_of (fun t ht => (HGD.out t ht).1) true (by rw [HR.out]; exact hbig)
      rw [HR.out] at hm1
      have hml : m.length = n := by
        have := congrArg List.length hm2
        simpa [HN.out] using this
      have HTM := Lib.hid (fun w => tokens_of hm1 w)
      have HM2 := Lib.hid hm2; have HM3 := Lib.hid hm3; have HML := Lib.hid hml
      clear hbig hm1 hm2 hm3 hml
      go_wp2_with fail
      refine (HTM.out _).mono ?_
      rintro e w3 ⟨v2, rfl, ht2, hb⟩
      have HV2 := Lib.hid ht2
      have HV1 := Lib.hid (toks_below HV1.out hb)
      have HB := Lib.hid (below_on' HB.out hb); clear hb ht2
      obtain ⟨a, c1, rfl, ha⟩ := toks_form HV1.out
      obtain ⟨a', c2, rfl, ha'⟩ := toks_form HV2.out
      rw [HN.out] at ha ⊢
      rw [HML.out] at ha' ⊢
      have HA := Lib.hid ha; have HA' := Lib.hid ha'
      clear ha ha'
      have hnn : ((n : Int) != (n : Int)) = false := by simp
      go_wp2_with fail
      go_loopw [57] (fun u wr => ∃ k : Nat, k ≤ n ∧ u = .int .i64 k ∧ Below w3.heap.size w3 wr) (fun u _ => n - (intOf u).toNat)
      case atStart => exact ⟨0, by omega, rfl, Below.refl _ _⟩
      case round =>
        obtain ⟨k, hk, rfl, hbr⟩ := hrel
        have HBR := Lib.hid hbr
        by_cases hlt : k < n
        · obtain ⟨g, rfl⟩ := HA.out (by omega)
          obtain ⟨g', rfl⟩ := HA'.out (by omega)
          obtain ⟨t, ht⟩ : ∃ t, l[k]? = some t := ⟨_, List.getElem?_eq_getElem (by have := HN.out; omega)⟩
          obtain ⟨tm, htm⟩ := same_tok HM2.out ht
          have hrl := toks_range (toks_below HV1.out hbr) rfl ht
          have hrm := toks_range (toks_below HV2.out hbr) rfl htm
          dsimp only [tokV] at hrl hrm
          have HGL : Hid (g < wr.heap.size) := Lib.hid (Nat.lt_of_lt_of_le (toks_lt HV1.out).2 hbr.size)
          have hk0 : (0 : Int) ≤ (k : Int) := by omega
          have hk1 : (k : Int) + 1 ≤ 9223372036854775807 := by omega
          have hkn : (k : Int) < (n : Int) := by omega
          cases k with
          | zero =>
            rw [Nat.zero_mul] at hrl hrm
            clear ht htm hbr hk0 hk1
            have hkn0 : (0 : Int) < (n : Int) := by omega
            go_wp2_with fail
            go_quiet (fail)
            have HRMq : Hid ((wr.drewN nq).rangeAt g' 0 [.int .u8 t.kind, .string (textOf t.text), .int .i64 t.n, .int .i64 tm]) := hrm
            have HRLq : Hid ((wr.drewN nq).rangeAt g 0 [.int .u8 t.kind, .string (textOf t.text), .int .i64 t.n, .int .i64 t.place]) := hrl
            have clk : (wr.drewN nq).cell? ⟨g, 3, none⟩ = some (.int .i64 t.place) := hrl 3 _ rfl
            have HBQ : Hid (Below w3.heap.size w3 (wr.drewN nq)) := ⟨HBR.out.os, HBR.out.tape, HBR.out.output, HBR.out.size, HBR.out.block⟩
            have hgl : g < (wr.drewN nq).heap.size := HGL.out
            clear hrm hrl
            generalize wr.drewN nq = wq at HRMq HRLq clk HBQ hgl ⊢
            go_wp2_with (refine wpList_load_mid rfl 29 (.tmp 92) rfl g' (0) rfl [.int .u8 t.kind, .string (textOf t.text), .int .i64 t.n, .int .i64 tm] _ HRMq.out Tryd.underlying29 rfl infoTok4 ?_)
            have HXa : Hid ((wq.alloc (.cells #[.int .u8 t.kind, .string (textOf t.text), .int .i64 t.n, .int .i64 t.place] 29)).rangeAt wq.heap.size 0 [.int .u8 t.kind, .string (textOf t.text), .int .i64 t.n, .int .i64 t.place]) := Lib.hid (TB.range (t := t) (heap_alloc_new wq _))
            have HXb : Hid ((wq.alloc (.cells #[.int .u8 t.kind, .string (textOf t.text), .int .i64 t.n, .int .i64 t.place] 29)).rangeAt g (0) [.int .u8 t.kind, .string (textOf t.text), .int .i64 t.n, .int .i64 t.place]) := Lib.hid (fun j' v hv => by
              have h1 := HRLq.out j' v hv
              exact (((Below.refl _ wq).alloc (Nat.le_refl _) (.cells #[.int .u8 t.kind, .string (textOf t.text), .int .i64 t.n, .int .i64 t.place] 29)).cell (p := ⟨g, 0 + j', none⟩) hgl).trans h1)
            have HBZ : Hid (Below w3.heap.size w3 (wq.alloc (.cells #[.int .u8 t.kind, .string (textOf t.text), .int .i64 t.n, .int .i64 t.place] 29))) := HBQ.out.alloc HBQ.out.size _
            obtain ⟨bz, hbz⟩ : ∃ bz, wq.heap.size = bz := ⟨_, rfl⟩
            rw [hbz] at HXa ⊢
            clear hbz clk
            generalize wq.alloc (.cells #[.int .u8 t.kind, .string (textOf t.text), .int .i64 t.n, .int .i64 t.place] 29) = wz at HXa HXb HBZ ⊢
            refine wp_region_peel2 (by kernel_rfl) (by simp only [List.dropLast_cons_cons, List.dropLast_singleton]; exact rfl) rfl (by kernel_rfl) ?_
            refine wpAny_of_held (S := fun w' => w'.rangeAt bz 0 [.int .u8 t.kind, .string (textOf t.text), .int .i64 t.n, .int .i64 t.place] ∧ w'.rangeAt g (0) [.int .u8 t.kind, .string (textOf t.text), .int .i64 t.n, .int .i64 t.place]) _ _ _ _ ?_
            have hHeld : wz.drew.rangeAt bz 0 [.int .u8 t.kind, .string (textOf t.text), .int .i64 t.n, .int .i64 t.place] ∧ wz.drew.rangeAt g (0) [.int .u8 t.kind, .string (textOf t.text), .int .i64 t.n, .int .i64 t.place] := ⟨HXa.out, HXb.out⟩
            refine wpAnyH_take (i := 0) (v := .agg #[.int .u8 t.kind, .string (textOf t.text), .int .i64 t.n, .int .i64 t.place]) rfl (by kernel_rfl) (by kernel_rfl) (by kernel_rfl) (fun _ _ _ h => h) (yieldsIf_load_mid (by rfl) 29 (.tmp 13) rfl bz 0 (by simp [Act.eval]) [.int .u8 t.kind, .string (textOf t.text), .int .i64 t.n, .int .i64 t.place] _ (fun W hW => hW.1) Tryd.underlying29 rfl infoTok4) (by assumption) ?_
            try simp only [Act.put, List.getElem_toArray, List.getElem_cons_zero, List.getElem_cons_succ, List.setIfInBounds_toArray, List.set_cons_zero, List.set_cons_succ]
            refine wpAnyH_take (i := 1) (v := ?v1) rfl (by kernel_rfl) (by kernel_rfl) (by kernel_rfl) (fun _ _ _ h => h) (Or.inl ⟨by rfl, ?hy1⟩) (by assumption) ?rest1
            case hy1 => (intro w0 hSw; (try dsimp only at hSw); go_simp; try with_reducible rfl)
            try simp only [Act.put, List.getElem_toArray, List.getElem_cons_zero, List.getElem_cons_succ, List.setIfInBounds_toArray, List.set_cons_zero, List.set_cons_succ]
            refine wpAnyH_take (i := 2) (v := ?v2) rfl (by kernel_rfl) (by kernel_rfl) (by kernel_rfl) (fun _ _ _ h => h) (Or.inl ⟨by rfl, ?hy2⟩) (by assumption) ?rest2
            case hy2 => (intro w0 hSw; (try dsimp only at hSw); go_simp; try with_reducible rfl)
            try simp only [Act.put, List.getElem_toArray, List.getElem_cons_zero, List.getElem_cons_succ, List.setIfInBounds_toArray, List.set_cons_zero, List.set_cons_succ]
            refine wpAnyH_take (i := 3) (v := ?v3) rfl (by kernel_rfl) (by kernel_rfl) (by kernel_rfl) (fun _ _ _ h => h) (Or.inl ⟨by rfl, ?hy3⟩) (by assumption) ?rest3
            case hy3 => (intro w0 hSw; (try dsimp only at hSw); go_simp; try with_reducible rfl)
            try simp only [Act.put, List.getElem_toArray, List.getElem_cons_zero, List.getElem_cons_succ, List.setIfInBounds_toArray, List.set_cons_zero, List.set_cons_succ]
            refine wpAnyH_take (i := 4) (v := .agg #[.int .u8 t.kind, .string (textOf t.text), .int .i64 t.n, .int .i64 t.place]) rfl (by kernel_rfl) (by kernel_rfl) (by kernel_rfl) (fun _ _ _ h => h) (yieldsIf_load_mid (by rfl) 29 (.tmp 103) rfl g (0) (by simp [Act.eval]) [.int .u8 t.kind, .string (textOf t.text), .int .i64 t.n, .int .i64 t.place] _ (fun W hW => hW.2) Tryd.underlying29 rfl infoTok4) (by assumption) ?_
            try simp only [Act.put, List.getElem_toArray, List.getElem_cons_zero, List.getElem_cons_succ, List.setIfInBounds_toArray, List.set_cons_zero, List.set_cons_succ]
            refine wpAnyH_done (by kernel_rfl) ?_ _
            change wpList _ _ _ _ _ _
            clear hHeld
            go_wp2_with fail
            go_roundw
            case rel => exact ⟨1, by omega, by go_num, below_dr HBZ.out⟩
            case measure => simp [intOf]; omega
          | succ j =>
            obtain ⟨tp, htp⟩ : ∃ t, l[j]? = some t := ⟨_, List.getElem?_eq_getElem (by have := HN.out; omega)⟩
            obtain ⟨tq, htq⟩ := same_tok HM2.out htp
            have hpl := place_rises HRISE.out htp ht
            have hpm := place_rises HM3.out htq htm
            dsimp only at hpl hpm
            have pl1 := toks_range (toks_below HV1.out hbr) rfl htp 3 _ rfl
            have pm1 := toks_range (toks_below HV2.out hbr) rfl htq 3 _ rfl
            have pl2 := hrl 3 _ rfl
            have pm2 := hrm 3 _ rfl
            have ql : ¬ (t.place : Int) ≤ (tp.place : Int) := by omega
            have qm : ¬ (tm : Int) ≤ (tq : Int) := by omega
            have ql2 : decide (t.place ≤ tp.place) = false := by simp; omega
            have qm2 : decide (tm ≤ tq) = false := by simp; omega
            have hwj : IntKind.i64.wrap (j : Int) = j := IntWalk.i64_in _ (by omega)
            have hj0 : (0 : Int) ≤ (j : Int) := by omega
            have hjn : (j : Int) < (n : Int) := by omega
            have hjn1 : (j : Int) + 1 < (n : Int) := by omega
            have hjp : (0 : Int) < (j : Int) + 1 := by omega
            have hj10 : (0 : Int) ≤ (j : Int) + 1 := by omega
            have hjt : ((j : Int) + 1).toNat = j + 1 := by omega
            have hj11 : (j : Int) + 1 - 1 = j := by omega
            clear ht htm hbr htp htq hpl hpm
            go_wp2_with fail
            go_quiet (fail)
            have HRMq : Hid ((wr.drewN nq).rangeAt g' ((j + 1) * 4) [.int .u8 t.kind, .string (textOf t.text), .int .i64 t.n, .int .i64 tm]) := hrm
            have HRLq : Hid ((wr.drewN nq).rangeAt g ((j + 1) * 4) [.int .u8 t.kind, .string (textOf t.text), .int .i64 t.n, .int .i64 t.place]) := hrl
            have clk : (wr.drewN nq).cell? ⟨g, (j + 1) * 4 + 3, none⟩ = some (.int .i64 t.place) := hrl 3 _ rfl
            have HBQ : Hid (Below w3.heap.size w3 (wr.drewN nq)) := ⟨HBR.out.os, HBR.out.tape, HBR.out.output, HBR.out.size, HBR.out.block⟩
            have hgl : g < (wr.drewN nq).heap.size := HGL.out
            clear hrm hrl
            generalize wr.drewN nq = wq at HRMq HRLq clk HBQ hgl ⊢
            go_wp2_with (refine wpList_load_mid rfl 29 (.tmp 92) rfl g' (((j + 1) * 4)) rfl [.int .u8 t.kind, .string (textOf t.text), .int .i64 t.n, .int .i64 tm] _ HRMq.out Tryd.underlying29 rfl infoTok4 ?_)
            have HXa : Hid ((wq.alloc (.cells #[.int .u8 t.kind, .string (textOf t.text), .int .i64 t.n, .int .i64 t.place] 29)).rangeAt wq.heap.size 0 [.int .u8 t.kind, .string (textOf t.text), .int .i64 t.n, .int .i64 t.place]) := Lib.hid (TB.range (t := t) (heap_alloc_new wq _))
            have HXb : Hid ((wq.alloc (.cells #[.int .u8 t.kind, .string (textOf t.text), .int .i64 t.n, .int .i64 t.place] 29)).rangeAt g (((j + 1) * 4)) [.int .u8 t.kind, .string (textOf t.text), .int .i64 t.n, .int .i64 t.place]) := Lib.hid (fun j' v hv => by
              have h1 := HRLq.out j' v hv
              exact (((Below.refl _ wq).alloc (Nat.le_refl _) (.cells #[.int .u8 t.kind, .string (textOf t.text), .int .i64 t.n, .int .i64 t.place] 29)).cell (p := ⟨g, ((j + 1) * 4) + j', none⟩) hgl).trans h1)
            have HBZ : Hid (Below w3.heap.size w3 (wq.alloc (.cells #[.int .u8 t.kind, .string (textOf t.text), .int .i64 t.n, .int .i64 t.place] 29))) := HBQ.out.alloc HBQ.out.size _
            obtain ⟨bz, hbz⟩ : ∃ bz, wq.heap.size = bz := ⟨_, rfl⟩
            rw [hbz] at HXa ⊢
            clear hbz clk
            generalize wq.alloc (.cells #[.int .u8 t.kind, .string (textOf t.text), .int .i64 t.n, .int .i64 t.place] 29) = wz at HXa HXb HBZ ⊢
            refine wp_region_peel2 (by kernel_rfl) (by simp only [List.dropLast_cons_cons, List.dropLast_singleton]; exact rfl) rfl (by kernel_rfl) ?_
            refine wpAny_of_held (S := fun w' => w'.rangeAt bz 0 [.int .u8 t.kind, .string (textOf t.text), .int .i64 t.n, .int .i64 t.place] ∧ w'.rangeAt g (((j + 1) * 4)) [.int .u8 t.kind, .string (textOf t.text), .int .i64 t.n, .int .i64 t.place]) _ _ _ _ ?_
            have hHeld : wz.drew.rangeAt bz 0 [.int .u8 t.kind, .string (textOf t.text), .int .i64 t.n, .int .i64 t.place] ∧ wz.drew.rangeAt g (((j + 1) * 4)) [.int .u8 t.kind, .string (textOf t.text), .int .i64 t.n, .int .i64 t.place] := ⟨HXa.out, HXb.out⟩
            refine wpAnyH_take (i := 0) (v := .agg #[.int .u8 t.kind, .string (textOf t.text), .int .i64 t.n, .int .i64 t.place]) rfl (by kernel_rfl) (by kernel_rfl) (by kernel_rfl) (fun _ _ _ h => h) (yieldsIf_load_mid (by rfl) 29 (.tmp 13) rfl bz 0 (by simp [Act.eval]) [.int .u8 t.kind, .string (textOf t.text), .int .i64 t.n, .int .i64 t.place] _ (fun W hW => hW.1) Tryd.underlying29 rfl infoTok4) (by assumption) ?_
            try simp only [Act.put, List.getElem_toArray, List.getElem_cons_zero, List.getElem_cons_succ, List.setIfInBounds_toArray, List.set_cons_zero, List.set_cons_succ]
            refine wpAnyH_take (i := 1) (v := ?v4) rfl (by kernel_rfl) (by kernel_rfl) (by kernel_rfl) (fun _ _ _ h => h) (Or.inl ⟨by rfl, ?hy4⟩) (by assumption) ?rest4
            case hy4 => (intro w0 hSw; (try dsimp only at hSw); go_simp; try with_reducible rfl)
            try simp only [Act.put, List.getElem_toArray, List.getElem_cons_zero, List.getElem_cons_succ, List.setIfInBounds_toArray, List.set_cons_zero, List.set_cons_succ]
            refine wpAnyH_take (i := 2) (v := ?v5) rfl (by kernel_rfl) (by kernel_rfl) (by kernel_rfl) (fun _ _ _ h => h) (Or.inl ⟨by rfl, ?hy5⟩) (by assumption) ?rest5
            case hy5 => (intro w0 hSw; (try dsimp only at hSw); go_simp; try with_reducible rfl)
            try simp only [Act.put, List.getElem_toArray, List.getElem_cons_zero, List.getElem_cons_succ, List.setIfInBounds_toArray, List.set_cons_zero, List.set_cons_succ]
            refine wpAnyH_take (i := 3) (v := ?v6) rfl (by kernel_rfl) (by kernel_rfl) (by kernel_rfl) (fun _ _ _ h => h) (Or.inl ⟨by rfl, ?hy6⟩) (by assumption) ?rest6
            case hy6 => (intro w0 hSw; (try dsimp only at hSw); go_simp; try with_reducible rfl)
            try simp only [Act.put, List.getElem_toArray, List.getElem_cons_zero, List.getElem_cons_succ, List.setIfInBounds_toArray, List.set_cons_zero, List.set_cons_succ]
            refine wpAnyH_take (i := 4) (v := .agg #[.int .u8 t.kind, .string (textOf t.text), .int .i64 t.n, .int .i64 t.place]) rfl (by kernel_rfl) (by kernel_rfl) (by kernel_rfl) (fun _ _ _ h => h) (yieldsIf_load_mid (by rfl) 29 (.tmp 103) rfl g (((j + 1) * 4)) (by simp [Act.eval]) [.int .u8 t.kind, .string (textOf t.text), .int .i64 t.n, .int .i64 t.place] _ (fun W hW => hW.2) Tryd.underlying29 rfl infoTok4) (by assumption) ?_
            try simp only [Act.put, List.getElem_toArray, List.getElem_cons_zero, List.getElem_cons_succ, List.setIfInBounds_toArray, List.set_cons_zero, List.set_cons_succ]
            refine wpAnyH_done (by kernel_rfl) ?_ _
            change wpList _ _ _ _ _ _
            clear hHeld
            go_wp2_with fail
            go_roundw
            case rel => exact ⟨j + 2, by omega, by go_num, below_dr HBZ.out⟩
            case measure => simp [intOf]; omega
        · have hkn : (n : Int) ≤ (k : Int) := by omega
          clear hbr
          go_wp2_with fail
          refine (works_any _).mono ?_
          rintro e w4 ⟨rfl, hb⟩
          have HB := Lib.hid (below_on' (HB.out.trans (HBR.out.mono HB.out.size)) hb); clear hb
          go_wp2_with fail
          go_ret
          exact ⟨rfl, HB.out⟩
  | false =>
    go_enter Tryd.func3, Tryd.ntmps3
    go_wp2_with fail
    refine (HT1.out _).mono ?_
    rintro e w1 ⟨v1, rfl, ht1, hb⟩
    have HB := Lib.hid hb; have HV1 := Lib.hid ht1; clear hb ht1
    go_wp2_with fail
    refine (HXT.out _ v1 _ HV1.out (HTAB.out.on HB.out)).mono ?_
    rintro e w2 ⟨rfl, hb⟩
    rw [HR.out]
    have HV1 := Lib.hid (toks_below HV1.out hb)
    have HB := Lib.hid (below_on' HB.out hb); clear hb
    by_cases hbig : 400 < R.size
    · have hbig' : (400 : Int) < (R.size : Int) := by omega
      have HTB := Lib.hid (fun w => tokens_of (s := R) (l := []) (p := 0) (c := 3) (by unfold toksO; rw [if_pos hbig]) w)
      clear hbig
      go_wp2_with fail
      refine (HTB.out _).mono ?_
      rintro e w3 ⟨v2, rfl, _, hb⟩
      have HB := Lib.hid (below_on' HB.out hb); clear hb
      go_wp2_with fail
      refine (works_any _).mono ?_
      rintro e w4 ⟨rfl, hb⟩
      have HB := Lib.hid (below_on' HB.out hb); clear hb
      go_wp2_with fail
      go_ret
      exact ⟨rfl, HB.out⟩
    · have hbig' : ¬ (400 : Int) < (R.size : Int) := by omega
      obtain ⟨m, hm1, hm2, hm3⟩ := blanks_of (fun t ht => (HGD.out t ht).1) false (by rw [HR.out]; exact hbig)
      rw [HR.out] at hm1
      have hml : m.length = n := by
        have := congrArg List.length hm2
        simpa [HN.out] using this
      have HTM := Lib.hid (fun w => tokens_of hm1 w)
      have HM2 := Lib.hid hm2; have HM3 := Lib.hid hm3; have HML := Lib.hid hml
      clear hbig hm1 hm2 hm3 hml
      go_wp2_with fail
      refine (HTM.out _).mono ?_
      rintro e w3 ⟨v2, rfl, ht2, hb⟩
      have HV2 := Lib.hid ht2
      have HV1 := Lib.hid (toks_below HV1.out hb)
      have HB := Lib.hid (below_on' HB.out hb); clear hb ht2
      obtain ⟨a, c1, rfl, ha⟩ := toks_form HV1.out
      obtain ⟨a', c2, rfl, ha'⟩ := toks_form HV2.out
      rw [HN.out] at ha ⊢
      rw [HML.out] at ha' ⊢
      have HA := Lib.hid ha; have HA' := Lib.hid ha'
      clear ha ha'
      have hnn : ((n : Int) != (n : Int)) = false := by simp
      go_wp2_with fail
      go_loopw [57] (fun u wr => ∃ k : Nat, k ≤ n ∧ u = .int .i64 k ∧ Below w3.heap.size w3 wr) (fun u _ => n - (intOf u).toNat)
      case atStart => exact ⟨0, by omega, rfl, Below.refl _ _⟩
      case round =>
        obtain ⟨k, hk, rfl, hbr⟩ := hrel
        have HBR := Lib.hid hbr
        by_cases hlt : k < n
        · obtain ⟨g, rfl⟩ := HA.out (by omega)
          obtain ⟨g', rfl⟩ := HA'.out (by omega)
          obtain ⟨t, ht⟩ : ∃ t, l[k]? = some t := ⟨_, List.getElem?_eq_getElem (by have := HN.out; omega)⟩
          obtain ⟨tm, htm⟩ := same_tok HM2.out ht
          have hrl := toks_range (toks_below HV1.out hbr) rfl ht
          have hrm := toks_range (toks_below HV2.out hbr) rfl htm
          dsimp only [tokV] at hrl hrm
          have HGL : Hid (g < wr.heap.size) := Lib.hid (Nat.lt_of_lt_of_le (toks_lt HV1.out).2 hbr.size)
          have hk0 : (0 : Int) ≤ (k : Int) := by omega
          have hk1 : (k : Int) + 1 ≤ 9223372036854775807 := by omega
          have hkn : (k : Int) < (n : Int) := by omega
          cases k with
          | zero =>
            rw [Nat.zero_mul] at hrl hrm
            clear ht htm hbr hk0 hk1
            have hkn0 : (0 : Int) < (n : Int) := by omega
            go_wp2_with fail
            go_quiet (fail)
            have HRMq : Hid ((wr.drewN nq).rangeAt g' 0 [.int .u8 t.kind, .string (textOf t.text), .int .i64 t.n, .int .i64 tm]) := hrm
            have HRLq : Hid ((wr.drewN nq).rangeAt g 0 [.int .u8 t.kind, .string (textOf t.text), .int .i64 t.n, .int .i64 t.place]) := hrl
            have clk : (wr.drewN nq).cell? ⟨g, 3, none⟩ = some (.int .i64 t.place) := hrl 3 _ rfl
            have HBQ : Hid (Below w3.heap.size w3 (wr.drewN nq)) := ⟨HBR.out.os, HBR.out.tape, HBR.out.output, HBR.out.size, HBR.out.block⟩
            have hgl : g < (wr.drewN nq).heap.size := HGL.out
            clear hrm hrl
            generalize wr.drewN nq = wq at HRMq HRLq clk HBQ hgl ⊢
            go_wp2_with (refine wpList_load_mid rfl 29 (.tmp 92) rfl g' (0) rfl [.int .u8 t.kind, .string (textOf t.text), .int .i64 t.n, .int .i64 tm] _ HRMq.out Tryd.underlying29 rfl infoTok4 ?_)
            have HXa : Hid ((wq.alloc (.cells #[.int .u8 t.kind, .string (textOf t.text), .int .i64 t.n, .int .i64 t.place] 29)).rangeAt wq.heap.size 0 [.int .u8 t.kind, .string (textOf t.text), .int .i64 t.n, .int .i64 t.place]) := Lib.hid (TB.range (t := t) (heap_alloc_new wq _))
            have HXb : Hid ((wq.alloc (.cells #[.int .u8 t.kind, .string (textOf t.text), .int .i64 t.n, .int .i64 t.place] 29)).rangeAt g (0) [.int .u8 t.kind, .string (textOf t.text), .int .i64 t.n, .int .i64 t.place]) := Lib.hid (fun j' v hv => by
              have h1 := HRLq.out j' v hv
              exact (((Below.refl _ wq).alloc (Nat.le_refl _) (.cells #[.int .u8 t.kind, .string (textOf t.text), .int .i64 t.n, .int .i64 t.place] 29)).cell (p := ⟨g, 0 + j', none⟩) hgl).trans h1)
            have HBZ : Hid (Below w3.heap.size w3 (wq.alloc (.cells #[.int .u8 t.kind, .string (textOf t.text), .int .i64 t.n, .int .i64 t.place] 29))) := HBQ.out.alloc HBQ.out.size _
            obtain ⟨bz, hbz⟩ : ∃ bz, wq.heap.size = bz := ⟨_, rfl⟩
            rw [hbz] at HXa ⊢
            clear hbz clk
            generalize wq.alloc (.cells #[.int .u8 t.kind, .string (textOf t.text), .int .i64 t.n, .int .i64 t.place] 29) = wz at HXa HXb HBZ ⊢
            refine wp_region_peel2 (by kernel_rfl) (by simp only [List.dropLast_cons_cons, List.dropLast_singleton]; exact rfl) rfl (by kernel_rfl) ?_
            refine wpAny_of_held (S := fun w' => w'.rangeAt bz 0 [.int .u8 t.kind, .string (textOf t.text), .int .i64 t.n, .int .i64 t.place] ∧ w'.rangeAt g (0) [.int .u8 t.kind, .string (textOf t.text), .int .i64 t.n, .int .i64 t.place]) _ _ _ _ ?_
            have hHeld : wz.drew.rangeAt bz 0 [.int .u8 t.kind, .string (textOf t.text), .int .i64 t.n, .int .i64 t.place] ∧ wz.drew.rangeAt g (0) [.int .u8 t.kind, .string (textOf t.text), .int .i64 t.n, .int .i64 t.place] := ⟨HXa.out, HXb.out⟩
            refine wpAnyH_take (i := 0) (v := .agg #[.int .u8 t.kind, .string (textOf t.text), .int .i64 t.n, .int .i64 t.place]) rfl (by kernel_rfl) (by kernel_rfl) (by kernel_rfl) (fun _ _ _ h => h) (yieldsIf_load_mid (by rfl) 29 (.tmp 13) rfl bz 0 (by simp [Act.eval]) [.int .u8 t.kind, .string (textOf t.text), .int .i64 t.n, .int .i64 t.place] _ (fun W hW => hW.1) Tryd.underlying29 rfl infoTok4) (by assumption) ?_
            try simp only [Act.put, List.getElem_toArray, List.getElem_cons_zero, List.getElem_cons_succ, List.setIfInBounds_toArray, List.set_cons_zero, List.set_cons_succ]
            refine wpAnyH_take (i := 1) (v := ?v7) rfl (by kernel_rfl) (by kernel_rfl) (by kernel_rfl) (fun _ _ _ h => h) (Or.inl ⟨by rfl, ?hy7⟩) (by assumption) ?rest7
            case hy7 => (intro w0 hSw; (try dsimp only at hSw); go_simp; try with_reducible rfl)
            try simp only [Act.put, List.getElem_toArray, List.getElem_cons_zero, List.getElem_cons_succ, List.setIfInBounds_toArray, List.set_cons_zero, List.set_cons_succ]
            refine wpAnyH_take (i := 2) (v := ?v8) rfl (by kernel_rfl) (by kernel_rfl) (by kernel_rfl) (fun _ _ _ h => h) (Or.inl ⟨by rfl, ?hy8⟩) (by assumption) ?rest8
            case hy8 => (intro w0 hSw; (try dsimp only at hSw); go_simp; try with_reducible rfl)
            try simp only [Act.put, List.getElem_toArray, List.getElem_cons_zero, List.getElem_cons_succ, List.setIfInBounds_toArray, List.set_cons_zero, List.set_cons_succ]
            refine wpAnyH_take (i := 3) (v := ?v9) rfl (by kernel_rfl) (by kernel_rfl) (by kernel_rfl) (fun _ _ _ h => h) (Or.inl ⟨by rfl, ?hy9⟩) (by assumption) ?rest9
            case hy9 => (intro w0 hSw; (try dsimp only at hSw); go_simp; try with_reducible rfl)
            try simp only [Act.put, List.getElem_toArray, List.getElem_cons_zero, List.getElem_cons_succ, List.setIfInBounds_toArray, List.set_cons_zero, List.set_cons_succ]
            refine wpAnyH_take (i := 4) (v := .agg #[.int .u8 t.kind, .string (textOf t.text), .int .i64 t.n, .int .i64 t.place]) rfl (by kernel_rfl) (by kernel_rfl) (by kernel_rfl) (fun _ _ _ h => h) (yieldsIf_load_mid (by rfl) 29 (.tmp 103) rfl g (0) (by simp [Act.eval]) [.int .u8 t.kind, .string (textOf t.text), .int .i64 t.n, .int .i64 t.place] _ (fun W hW => hW.2) Tryd.underlying29 rfl infoTok4) (by assumption) ?_
            try simp only [Act.put, List.getElem_toArray, List.getElem_cons_zero, List.getElem_cons_succ, List.setIfInBounds_toArray, List.set_cons_zero, List.set_cons_succ]
            refine wpAnyH_done (by kernel_rfl) ?_ _
            change wpList _ _ _ _ _ _
            clear hHeld
            go_wp2_with fail
            go_roundw
            case rel => exact ⟨1, by omega, by go_num, below_dr HBZ.out⟩
            case measure => simp [intOf]; omega
          | succ j =>
            obtain ⟨tp, htp⟩ : ∃ t, l[j]? = some t := ⟨_, List.getElem?_eq_getElem (by have := HN.out; omega)⟩
            obtain ⟨tq, htq⟩ := same_tok HM2.out htp
            have hpl := place_rises HRISE.out htp ht
            have hpm := place_rises HM3.out htq htm
            dsimp only at hpl hpm
            have pl1 := toks_range (toks_below HV1.out hbr) rfl htp 3 _ rfl
            have pm1 := toks_range (toks_below HV2.out hbr) rfl htq 3 _ rfl
            have pl2 := hrl 3 _ rfl
            have pm2 := hrm 3 _ rfl
            have ql : ¬ (t.place : Int) ≤ (tp.place : Int) := by omega
            have qm : ¬ (tm : Int) ≤ (tq : Int) := by omega
            have ql2 : decide (t.place ≤ tp.place) = false := by simp; omega
            have qm2 : decide (tm ≤ tq) = false := by simp; omega
            have hwj : IntKind.i64.wrap (j : Int) = j := IntWalk.i64_in _ (by omega)
            have hj0 : (0 : Int) ≤ (j : Int) := by omega
            have hjn : (j : Int) < (n : Int) := by omega
            have hjn1 : (j : Int) + 1 < (n : Int) := by omega
            have hjp : (0 : Int) < (j : Int) + 1 := by omega
            have hj10 : (0 : Int) ≤ (j : Int) + 1 := by omega
            have hjt : ((j : Int) + 1).toNat = j + 1 := by omega
            have hj11 : (j : Int) + 1 - 1 = j := by omega
            clear ht htm hbr htp htq hpl hpm
            go_wp2_with fail
            go_quiet (fail)
            have HRMq : Hid ((wr.drewN nq).rangeAt g' ((j + 1) * 4) [.int .u8 t.kind, .string (textOf t.text), .int .i64 t.n, .int .i64 tm]) := hrm
            have HRLq : Hid ((wr.drewN nq).rangeAt g ((j + 1) * 4) [.int .u8 t.kind, .string (textOf t.text), .int .i64 t.n, .int .i64 t.place]) := hrl
            have clk : (wr.drewN nq).cell? ⟨g, (j + 1) * 4 + 3, none⟩ = some (.int .i64 t.place) := hrl 3 _ rfl
            have HBQ : Hid (Below w3.heap.size w3 (wr.drewN nq)) := ⟨HBR.out.os, HBR.out.tape, HBR.out.output, HBR.out.size, HBR.out.block⟩
            have hgl : g < (wr.drewN nq).heap.size := HGL.out
            clear hrm hrl
            generalize wr.drewN nq = wq at HRMq HRLq clk HBQ hgl ⊢
            go_wp2_with (refine wpList_load_mid rfl 29 (.tmp 92) rfl g' (((j + 1) * 4)) rfl [.int .u8 t.kind, .string (textOf t.text), .int .i64 t.n, .int .i64 tm] _ HRMq.out Tryd.underlying29 rfl infoTok4 ?_)
            have HXa : Hid ((wq.alloc (.cells #[.int .u8 t.kind, .string (textOf t.text), .int .i64 t.n, .int .i64 t.place] 29)).rangeAt wq.heap.size 0 [.int .u8 t.kind, .string (textOf t.text), .int .i64 t.n, .int .i64 t.place]) := Lib.hid (TB.range (t := t) (heap_alloc_new wq _))
            have HXb : Hid ((wq.alloc (.cells #[.int .u8 t.kind, .string (textOf t.text), .int .i64 t.n, .int .i64 t.place] 29)).rangeAt g (((j + 1) * 4)) [.int .u8 t.kind, .string (textOf t.text), .int .i64 t.n, .int .i64 t.place]) := Lib.hid (fun j' v hv => by
              have h1 := HRLq.out j' v hv
              exact (((Below.refl _ wq).alloc (Nat.le_refl _) (.cells #[.int .u8 t.kind, .string (textOf t.text), .int .i64 t.n, .int .i64 t.place] 29)).cell (p := ⟨g, ((j + 1) * 4) + j', none⟩) hgl).trans h1)
            have HBZ : Hid (Below w3.heap.size w3 (wq.alloc (.cells #[.int .u8 t.kind, .string (textOf t.text), .int .i64 t.n, .int .i64 t.place] 29))) := HBQ.out.alloc HBQ.out.size _
            obtain ⟨bz, hbz⟩ : ∃ bz, wq.heap.size = bz := ⟨_, rfl⟩
            rw [hbz] at HXa ⊢
            clear hbz clk
            generalize wq.alloc (.cells #[.int .u8 t.kind, .string (textOf t.text), .int .i64 t.n, .int .i64 t.place] 29) = wz at HXa HXb HBZ ⊢
            refine wp_region_peel2 (by kernel_rfl) (by simp only [List.dropLast_cons_cons, List.dropLast_singleton]; exact rfl) rfl (by kernel_rfl) ?_
            refine wpAny_of_held (S := fun w' => w'.rangeAt bz 0 [.int .u8 t.kind, .string (textOf t.text), .int .i64 t.n, .int .i64 t.place] ∧ w'.rangeAt g (((j + 1) * 4)) [.int .u8 t.kind, .string (textOf t.text), .int .i64 t.n, .int .i64 t.place]) _ _ _ _ ?_
            have hHeld : wz.drew.rangeAt bz 0 [.int .u8 t.kind, .string (textOf t.text), .int .i64 t.n, .int .i64 t.place] ∧ wz.drew.rangeAt g (((j + 1) * 4)) [.int .u8 t.kind, .string (textOf t.text), .int .i64 t.n, .int .i64 t.place] := ⟨HXa.out, HXb.out⟩
            refine wpAnyH_take (i := 0) (v := .agg #[.int .u8 t.kind, .string (textOf t.text), .int .i64 t.n, .int .i64 t.place]) rfl (by kernel_rfl) (by kernel_rfl) (by kernel_rfl) (fun _ _ _ h => h) (yieldsIf_load_mid (by rfl) 29 (.tmp 13) rfl bz 0 (by simp [Act.eval]) [.int .u8 t.kind, .string (textOf t.text), .int .i64 t.n, .int .i64 t.place] _ (fun W hW => hW.1) Tryd.underlying29 rfl infoTok4) (by assumption) ?_
            try simp only [Act.put, List.getElem_toArray, List.getElem_cons_zero, List.getElem_cons_succ, List.setIfInBounds_toArray, List.set_cons_zero, List.set_cons_succ]
            refine wpAnyH_take (i := 1) (v := ?v10) rfl (by kernel_rfl) (by kernel_rfl) (by kernel_rfl) (fun _ _ _ h => h) (Or.inl ⟨by rfl, ?hy10⟩) (by assumption) ?rest10
            case hy10 => (intro w0 hSw; (try dsimp only at hSw); go_simp; try with_reducible rfl)
            try simp only [Act.put, List.getElem_toArray, List.getElem_cons_zero, List.getElem_cons_succ, List.setIfInBounds_toArray, List.set_cons_zero, List.set_cons_succ]
            refine wpAnyH_take (i := 2) (v := ?v11) rfl (by kernel_rfl) (by kernel_rfl) (by kernel_rfl) (fun _ _ _ h => h) (Or.inl ⟨by rfl, ?hy11⟩) (by assumption) ?rest11
            case hy11 => (intro w0 hSw; (try dsimp only at hSw); go_simp; try with_reducible rfl)
            try simp only [Act.put, List.getElem_toArray, List.getElem_cons_zero, List.getElem_cons_succ, List.setIfInBounds_toArray, List.set_cons_zero, List.set_cons_succ]
            refine wpAnyH_take (i := 3) (v := ?v12) rfl (by kernel_rfl) (by kernel_rfl) (by kernel_rfl) (fun _ _ _ h => h) (Or.inl ⟨by rfl, ?hy12⟩) (by assumption) ?rest12
            case hy12 => (intro w0 hSw; (try dsimp only at hSw); go_simp; try with_reducible rfl)
            try simp only [Act.put, List.getElem_toArray, List.getElem_cons_zero, List.getElem_cons_succ, List.setIfInBounds_toArray, List.set_cons_zero, List.set_cons_succ]
            refine wpAnyH_take (i := 4) (v := .agg #[.int .u8 t.kind, .string (textOf t.text), .int .i64 t.n, .int .i64 t.place]) rfl (by kernel_rfl) (by kernel_rfl) (by kernel_rfl) (fun _ _ _ h => h) (yieldsIf_load_mid (by rfl) 29 (.tmp 103) rfl g (((j + 1) * 4)) (by simp [Act.eval]) [.int .u8 t.kind, .string (textOf t.text), .int .i64 t.n, .int .i64 t.place] _ (fun W hW => hW.2) Tryd.underlying29 rfl infoTok4) (by assumption) ?_
            try simp only [Act.put, List.getElem_toArray, List.getElem_cons_zero, List.getElem_cons_succ, List.setIfInBounds_toArray, List.set_cons_zero, List.set_cons_succ]
            refine wpAnyH_done (by kernel_rfl) ?_ _
            change wpList _ _ _ _ _ _
            clear hHeld
            go_wp2_with fail
            go_roundw
            case rel => exact ⟨j + 2, by omega, by go_num, below_dr HBZ.out⟩
            case measure => simp [intOf]; omega
        · have hkn : (n : Int) ≤ (k : Int) := by omega
          clear hbr
          go_wp2_with fail
          refine (works_any _).mono ?_
          rintro e w4 ⟨rfl, hb⟩
          have HB := Lib.hid (below_on' (HB.out.trans (HBR.out.mono HB.out.size)) hb); clear hb
          go_wp2_with fail
          go_ret
          exact ⟨rfl, HB.out⟩
end Go.Proofs.YtejcgkchlehoiaaDoor.lex

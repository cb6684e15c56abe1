/- Parse, line by line. -/
import Derived.Test.YtimjpgmgpgpanaaGreatDoorScJ
namespace Go.Proofs.YtimjpgmgpgpanaaGreatDoor.sc
set_option linter.unusedSimpArgs false
set_option linter.unusedVariables false
open Go.RowKit nam exp jb

theorem lines_pos (s : ByteArray) : 0 < (linesO s).length := by
  rw [lines_split, List.length_map]
  have : ∀ (l cur : List UInt8), 0 < (splitL cur l).length := by
    intro l
    induction l with
    | nil => intro cur; simp [splitL]
    | cons c l ih =>
      intro cur
      rw [splitL]
      split
      · simp
      · exact ih _
  exact this _ _
theorem goO_step {L : List ByteArray} {k : Nat} (h : k < L.length) (r : Rdr) : goO (L.drop k) k r = if silentB L[k] then goO (L.drop (k + 1)) (k + 1) r else match takeO r L[k] with
    | .error e => (0, [], ((k + 1 : Nat) : Int), e)
    | .ok (p, ns) => goO (L.drop (k + 1)) (k + 1) ⟨p, ns, r.said ++ [((k + 1 : Nat) : Int)]⟩ := by
  rw [List.drop_eq_getElem_cons h, goO]
  rfl
theorem take_nodes {r : Rdr} {l : ByteArray} {q : Int × List Nd} (h : takeO r l = .ok q) : (r.said.length = 0 ∧ q.2 = r.nodes) ∨ (r.said.length ≠ 0 ∧ q.2.length = r.nodes.length + 1) := by
  unfold takeO at h
  split at h
  · cases h
  split at h
  · rename_i h0
    split at h
    · cases h
    · split at h
      · cases h
      · cases h; exact .inl ⟨h0, rfl⟩
  · rename_i h0
    split at h
    · cases h
    · cases h; exact .inr ⟨h0, by simp⟩
theorem frameJ_set {w : World} {N j : Nat} {z : Value} {c : Array Value} {fr : Nat × Nat} (h : w.heap[N]? = some (.cells c 24 fr)) : FrameJ w (w.setCell ⟨N, j, none⟩ z) := by
  intro b c' t' fr' hb ht
  have hne : b ≠ N := by
    intro e
    subst e
    rw [h] at hb
    simp only [Option.some.injEq, Obj.cells.injEq] at hb
    exact ht hb.2.1.symm
  rw [Below.heap_setCell _ _ _ _ hne]
  exact hb
def Inv (s : ByteArray) (w : World) (N rb : Nat) (vn vs vl : Value) (rows : List NRow) (r : Rdr) (k : Nat) (wr : World) : Prop :=
  IsRdr wr w.heap.size rb vn vs rows r ∧ goO ((linesO s).drop k) k r = goO (linesO s) 0 ⟨0, [], []⟩ ∧ r.nodes.length ≤ k ∧ r.said.length ≤ k ∧ (r.said.length = r.nodes.length + 1 ∨ (r.said = [] ∧ r.nodes = [])) ∧
    wr.ownsRow w.heap.size 9 1 vl (linesO s).length ((linesO s).map Value.string) ∧ wr.heap[N]? = some (.cells #[.int .i64 0, .slice none 0 0] 24 (0, 0)) ∧ Below w.heap.size w wr
theorem Inv.skip {s : ByteArray} {w wr w1 : World} {N rb k : Nat} {vn vs vl : Value} {rows : List NRow} {r : Rdr} (h : Inv s w N rb vn vs vl rows r k wr) (hb : Below wr.heap.size wr w1) (hk : k < (linesO s).length) (hs : silentB (linesO s)[k] = true) : Inv s w N rb vn vs vl rows r (k + 1) w1 := by
  obtain ⟨h1, h2, h3, h4, h5, h6, h7, h8⟩ := h
  refine ⟨h1.under hb, ?_, by omega, by omega, h5, own_below' h6 hb, (hb.block N (Array.getElem?_eq_some_iff.1 h7).1).trans h7, h8.trans (hb.mono h8.size)⟩
  rw [← h2, goO_step hk, if_pos hs]
theorem Inv.told {s : ByteArray} {w wr w1 w2 w5 : World} {N rb k g cap : Nat} {vn vs vl vn' : Value} {rows rows' : List NRow} {r : Rdr} {q : Int × List Nd} {o : Obj} (h : Inv s w N rb vn vs vl rows r k wr) (hb : Below wr.heap.size wr w1) (hk : k < (linesO s).length) (hs : silentB (linesO s)[k] = false)
    (ht : takeO r (linesO s)[k] = .ok q) (hr : IsRdr w2 w.heap.size rb vn' vs rows' ⟨q.1, q.2, r.said⟩) (hb2 : Below w.heap.size w1 w2) (hk2 : Kept w1 w2) (hg : (w2.alloc o).grownBy w5 vs.ownBlock)
    (hown : lg.Row w5 3 1 (.slice (some ⟨g, 0, none⟩) (r.said.length + 1) cap) (r.said.length + 1) (r.said.map intV ++ [.int .i64 ((k : Int) + 1)])) (hat : vs.ownBlock = some g ∨ g = (w2.alloc o).heap.size) :
    Inv s w N rb vn' (.slice (some ⟨g, 0, none⟩) (r.said.length + 1) cap) vl rows' ⟨q.1, q.2, r.said ++ [((k + 1 : Nat) : Int)]⟩ (k + 1) (w5.setCell ⟨rb, 2, none⟩ (.slice (some ⟨g, 0, none⟩) (r.said.length + 1) cap)) := by
  obtain ⟨h1, h2, h3, h4, h5, h6, h7, h8⟩ := h
  have e1 : ((k : Int) + 1) = ((k + 1 : Nat) : Int) := by omega
  rw [e1] at hown
  obtain ⟨a1, a2, a3⟩ := hr.say hg hown hat
  have hkk : Kept2 w1 _ := hk2.two.trans a3
  have hk0 : Kept2 wr _ := (Kept.of_below hb).two.trans hkk
  refine ⟨a1, ?_, ?_, by rw [List.length_append, List.length_singleton]; omega, ?_, hk0.own h6 (by decide) (by decide) (by decide), hk0.2 _ _ _ _ h7 (by decide) (by decide) (by decide), (h8.trans (hb.mono h8.size)).trans (hb2.trans a2)⟩
  · rw [← h2, goO_step hk, hs, ht]; rfl
  · show q.2.length ≤ k + 1
    rcases take_nodes ht with ⟨_, h⟩ | ⟨_, h⟩
    · rw [h]; omega
    · rw [h]; omega
  · show (r.said ++ [((k + 1 : Nat) : Int)]).length = q.2.length + 1 ∨ _
    rw [List.length_append, List.length_singleton]
    rcases take_nodes ht with ⟨h0, h⟩ | ⟨h0, h⟩
    · rw [h]
      rcases h5 with h5 | ⟨h5, h6⟩
      · omega
      · rw [h6, h0]; exact .inl rfl
    · rcases h5 with h5 | ⟨h5, h6⟩
      · left; omega
      · rw [h5] at h0; exact absurd rfl h0
set_option maxHeartbeats 3200000 in
set_option maxRecDepth 1000000 in
theorem parse_any (s : ByteArray) {w : World} (hk : KTab w) (ht : jb.Tab w) : Calls Tryz.prog 7 #[.string s] w (WholePost (parseJ s) w) := by
  obtain ⟨i0, hi, hz0, hz1, hz2⟩ := info_parts info3
  by_cases hlong : 65536 < s.size
  · have hl' : (65536 : Int) < (s.size : Int) := by omega
    have HE : Hid (WholePost (parseJ s) w (.returned (.tuple #[.agg #[.int .i64 0, .slice none 0 0], .int .i64 0, .int .i64 3])) (w.alloc (.cells #[.int .i64 0, .slice none 0 0] 24))) := Lib.hid (by
      unfold parseJ
      rw [if_pos hlong]; exact ⟨_, rfl, nodes_nil _, below_made _ _⟩)
    have HD := Lib.hid (@box2 w _ (.int .i64 0) (.slice none 0 0) 24 rfl)
    clear hlong hk ht
    go_enter Tryz.func7, Tryz.ntmps7
    go_wp2_with fail
    obtain ⟨d0, d1⟩ := HD.out
    exact bodyPost_ret (v := .tuple #[.agg #[.int .i64 0, .slice none 0 0], .int .i64 0, .int .i64 3]) (by simp [results, Tryz.f7, go_sem, d0, d1]) rfl HE.out
  · have hl' : ¬ (65536 : Int) < (s.size : Int) := by omega
    obtain ⟨RES, hRES⟩ : ∃ o, parseJ s = o := ⟨_, rfl⟩
    have HRES : Hid (goO (linesO s) 0 ⟨0, [], []⟩ = RES) := Lib.hid (by rw [← hRES]; unfold parseJ; rw [if_neg hlong])
    rw [hRES]
    clear hRES
    have HLL := Lib.hid (lines_len s)
    have HLP := Lib.hid (lines_pos s)
    obtain ⟨N, hN⟩ : ∃ N, w.heap.size = N := ⟨_, rfl⟩
    obtain ⟨rb, hrb⟩ : ∃ rb, N + 1 = rb := ⟨_, rfl⟩
    obtain ⟨W, hW⟩ : ∃ W, (w.alloc (.cells #[.int .i64 0, .slice none 0 0] 24)).alloc (.cells #[.int .i64 0, .slice none 0 0, .slice none 0 0] 40) = W := ⟨_, rfl⟩
    have HB : Hid (Below w.heap.size w W) := Lib.hid (by rw [← hW]; exact (below_made w _).alloc (by simp) _)
    have hN1 : W.heap[N]? = some (.cells #[.int .i64 0, .slice none 0 0] 24 (0, 0)) := by rw [← hW]; exact heap_old (heap_last hN.symm)
    have hN2 : W.heap[rb]? = some (.cells #[.int .i64 0, .slice none 0 0, .slice none 0 0] 40 (0, 0)) := by rw [← hW]; exact heap_last (by simp; omega)
    have HR0 : Hid (∀ w1, Below W.heap.size W w1 → IsRdr w1 w.heap.size rb (.slice none 0 0) (.slice none 0 0) [] ⟨0, [], []⟩) := Lib.hid (fun w1 hb =>
      ⟨(hb.block rb (Array.getElem?_eq_some_iff.1 hN2).1).trans hN2, by omega, lg.Row.nil _ _ _, rfl, (fun c h => absurd h (by simp)), lg.Row.nil _ _ _, (fun g h => by simp [Value.ownBlock] at h), (fun g h => by simp [Value.ownBlock] at h)⟩)
    have HN1 := Lib.hid hN1
    have HLA := Lib.hid (lines_any s (by omega) W)
    unfold LinesPost at HLA
    have HWW := Lib.hid hW; have HNN := Lib.hid hN; have HRB := Lib.hid hrb
    have HK := Lib.hid hk; have HT := Lib.hid ht
    have HSZ : Hid (s.size ≤ 65536) := Lib.hid (by omega)
    rw [← HWW.out] at HLA
    clear hN1 hN2 hW hrb hlong hk ht hN
    go_enter Tryz.func7, Tryz.ntmps7
    go_wp2_with fail
    refine HLA.out.mono ?_
    rintro e w1 ⟨vl, rfl, ho, hb1⟩
    rw [HWW.out] at hb1 ho
    obtain ⟨n, hn⟩ : ∃ n, (linesO s).length = n := ⟨_, rfl⟩
    have HNL := Lib.hid hn
    have ho2 : w1.ownsRow w.heap.size 9 1 vl (linesO s).length ((linesO s).map Value.string) := by
      obtain ⟨k1, k2 | ⟨g, cap, cur, a0, a1, a2⟩⟩ := ho
      · exact ⟨k1, .inl k2⟩
      · exact ⟨k1, .inr ⟨g, cap, cur, a0, by have := HB.out.size; omega, a2⟩⟩
    obtain ⟨gl, cl, rfl, hcl⟩ : ∃ gl cl, vl = .slice (some ⟨gl, 0, none⟩) (linesO s).length cl ∧ (linesO s).length ≤ cl := by
      rcases own_cases ho with ⟨e1, e2⟩ | ⟨g, cap, e1, e2, _⟩
      · have := HLP.out; omega
      · exact ⟨g, cap, e1, e2⟩
    have HST : Hid (Inv s w N rb (.slice none 0 0) (.slice none 0 0) (.slice (some ⟨gl, 0, none⟩) (linesO s).length cl) [] ⟨0, [], []⟩ 0 w1) := Lib.hid
      ⟨HR0.out w1 hb1, rfl, by simp, by simp, .inr ⟨rfl, rfl⟩, ho2, (hb1.block N (Array.getElem?_eq_some_iff.1 HN1.out).1).trans HN1.out, HB.out.trans (hb1.mono HB.out.size)⟩
    rw [hn] at HST hcl ⊢
    have hn65 : n ≤ 65537 := by have := HLL.out.1; have := HSZ.out; omega
    clear ho hb1 ho2 hn HR0 HN1 HLA
    rw [HNN.out, HRB.out]
    go_wp2_with fail
    go_loopg [18] n (fun g v18 wr => ∃ (k : Nat) (vn vs : Value) (rows : List NRow) (r : Rdr), k + g = n ∧ v18 = .int .i64 (k : Int) ∧ Inv s w N rb vn vs (.slice (some ⟨gl, 0, none⟩) n cl) rows r k wr)
    case atStart => exact ⟨0, _, _, _, _, by omega, rfl, HST.out⟩
    case round =>
      obtain ⟨k, vn, vs, rows, r, hkg, rfl, hI⟩ := hrel
      have HI := Lib.hid hI; clear hI HST
      by_cases hkn : k < n
      · have hki : (k : Int) < (n : Int) := by omega
        have hkl : k < (linesO s).length := by rw [HNL.out]; exact hkn
        obtain ⟨l, hll⟩ : ∃ l, (linesO s)[k] = l := ⟨_, rfl⟩
        have hcell : wr.cell? ⟨gl, k, none⟩ = some (.string l) := by
          have h1 := HI.out.2.2.2.2.2.1
          rw [← HNL.out] at h1
          exact own_cellAt' h1 (by rw [List.getElem?_map, List.getElem?_eq_getElem hkl, hll]; rfl)
        have hls : l.size ≤ 1000000 := by
          have h1 := HLL.out.2 l (by rw [← hll]; exact List.getElem_mem hkl)
          have := HSZ.out
          omega
        have HS := Lib.hid (silent_any l hls wr)
        have HSK : Hid (∀ w1, Below wr.heap.size wr w1 → silentB l = true → Inv s w N rb vn vs (.slice (some ⟨gl, 0, none⟩) n cl) rows r (k + 1) w1) := Lib.hid (fun w1 hb hs => HI.out.skip hb hkl (by rw [hll]; exact hs))
        have HKL := Lib.hid hkl
        have HLL2 : Hid ((linesO s)[k]'HKL.out = l) := Lib.hid hll
        clear hll hkl
        cases hsl : silentB l with
        | true =>
          rw [hsl] at HS
          have HSL := Lib.hid hsl
          clear hsl hls hkn
          go_wp2_with fail
          refine HS.out.mono ?_
          rintro e w2 ⟨rfl, hb2⟩
          have HN2 := Lib.hid (HSK.out w2 hb2 HSL.out)
          clear hb2
          go_wp2_with fail
          go_roundg (gk - 1)
          case rel => exact ⟨k + 1, _, _, _, _, by omega, by go_num, HN2.out⟩
          case measure => omega
        | false =>
          rw [hsl] at HS
          have HSL := Lib.hid hsl
          have HTK : Hid (∀ w1, Below wr.heap.size wr w1 → Calls Tryz.prog 17 #[.pointer (some ⟨rb, 0, none⟩), .string l] w1 (TakePost w.heap.size rb vs r (takeO r l) w1)) := Lib.hid (fun w1 hb =>
            take_any l hls (HK.out.on (HI.out.2.2.2.2.2.2.2.trans (hb.mono HI.out.2.2.2.2.2.2.2.size))) (HI.out.1.under hb) (by have := HI.out.2.2.1; omega) (by have := HI.out.2.2.2.1; omega))
          obtain ⟨T, hT⟩ : ∃ T, takeO r l = T := ⟨_, rfl⟩
          rw [hT] at HTK
          have HTT := Lib.hid hT
          unfold TakePost at HTK
          clear hsl hls hT hkn
          cases T with
          | error c =>
            have HE : Hid (RES = (0, [], ((k + 1 : Nat) : Int), c)) := Lib.hid (by
              rw [← HRES.out, ← HI.out.2.1, goO_step HKL.out, HLL2.out, HSL.out, HTT.out]; rfl)
            have HP : Hid (∀ w1 w2 w7, Below wr.heap.size wr w1 → Below w.heap.size w1 w2 → w7.heap = ((w2.setCell ⟨N, 0, none⟩ (.int .i64 0)).setCell ⟨N, 1, none⟩ (.slice none 0 0)).heap → w7.os = w2.os → w7.tape = w2.tape → w7.output = w2.output →
                WholePost RES w (.returned (.tuple #[.agg #[.int .i64 0, .slice none 0 0], .int .i64 ((k : Int) + 1), .int .i64 c])) w7) := Lib.hid (fun w1 w2 w7 hb hb2 e1 e2 e3 e4 => by
              have h8 := HI.out.2.2.2.2.2.2.2
              have hbb : Below w.heap.size w w2 := (h8.trans (hb.mono h8.size)).trans hb2
              have hb7 : Below w.heap.size w w7 := below_same ((hbb.setCell (p := ⟨N, 0, none⟩) (by show w.heap.size ≤ N; have := HNN.out; omega) _).setCell (p := ⟨N, 1, none⟩) (by show w.heap.size ≤ N; have := HNN.out; omega) _) e1 e2 e3 e4
              rw [HE.out]
              exact ⟨.slice none 0 0, by simp, nodes_nil _, hb7⟩)
            clear HE
            go_wp2_with fail
            refine HS.out.mono ?_
            rintro e w2 ⟨rfl, hb2⟩
            have HB2 := Lib.hid hb2
            have HT2 := Lib.hid (HTK.out w2 hb2)
            clear hb2
            go_wp2_with fail
            refine HT2.out.mono ?_
            rintro e w3 ⟨⟨rfl, hc0⟩, hb3, hk3⟩
            have hne : (c != 0) = true := by simp [hc0]
            have hJ := hk3.2 _ _ _ _ ((HB2.out.block N (Array.getElem?_eq_some_iff.1 HI.out.2.2.2.2.2.2.1).1).trans HI.out.2.2.2.2.2.2.1) (by decide) (by decide)
            have n0 : w3.cell? ⟨N, 0, none⟩ = some (.int .i64 0) := cell_of hJ rfl
            have n1 : w3.cell? ⟨N, 1, none⟩ = some (.slice none 0 0) := cell_of hJ rfl
            have f0 : w3.frozen? ⟨N, 0, none⟩ = false := by simp [World.frozen?, hJ]
            have f1 : w3.frozen? ⟨N, 1, none⟩ = false := by simp [World.frozen?, hJ]
            have HB3 := Lib.hid hb3
            clear hb3 hk3 hJ hc0 hcell
            go_wp2_with fail
            try simp only [Exit.noGoto_ret, inBlock_ret, then_ret]
            exact bodyPost_ret (v := .tuple #[.agg #[.int .i64 0, .slice none 0 0], .int .i64 ((k : Int) + 1), .int .i64 c]) (by simp [results, Tryz.f7, go_sem, n0, n1]) rfl (HP.out _ _ _ HB2.out HB3.out rfl rfl rfl rfl)
          | ok q =>
            have hsn : r.said.length ≤ 100000 := by have := HI.out.2.2.2.1; omega
            have HNX : Hid (∀ w1 w2 w5 (o : Obj) (g cap : Nat) (vn' : Value) (rows' : List NRow), Below wr.heap.size wr w1 → IsRdr w2 w.heap.size rb vn' vs rows' ⟨q.1, q.2, r.said⟩ → Below w.heap.size w1 w2 → Kept w1 w2 → (w2.alloc o).grownBy w5 vs.ownBlock →
                lg.Row w5 3 1 (.slice (some ⟨g, 0, none⟩) (r.said.length + 1) cap) (r.said.length + 1) (r.said.map intV ++ [.int .i64 ((k : Int) + 1)]) → (vs.ownBlock = some g ∨ g = (w2.alloc o).heap.size) →
                Inv s w N rb vn' (.slice (some ⟨g, 0, none⟩) (r.said.length + 1) cap) (.slice (some ⟨gl, 0, none⟩) n cl) rows' ⟨q.1, q.2, r.said ++ [((k + 1 : Nat) : Int)]⟩ (k + 1) (w5.setCell ⟨rb, 2, none⟩ (.slice (some ⟨g, 0, none⟩) (r.said.length + 1) cap))) := Lib.hid (fun w1 w2 w5 o g cap vn' rows' hb hr hb2 hk2 hg hown hat =>
              HI.out.told hb HKL.out (by rw [HLL2.out]; exact HSL.out) (by rw [HLL2.out]; exact HTT.out) hr hb2 hk2 hg hown hat)
            go_wp2_with fail
            refine HS.out.mono ?_
            rintro e w2 ⟨rfl, hb2⟩
            have HB2 := Lib.hid hb2
            have HT2 := Lib.hid (HTK.out w2 hb2)
            clear hb2 hcell
            go_wp2_with fail
            refine HT2.out.mono ?_
            rintro e w3 ⟨⟨rfl, vn', rows', hr3⟩, hb3, hk3⟩
            obtain ⟨x0, x1, x2, xf⟩ := hr3.cells
            have hrw := hr3.2.2.2.2.2.1
            have HR3 := Lib.hid (And.intro hr3 (And.intro hb3 hk3))
            have HRW := Lib.hid hrw
            have xf2 := xf 2
            clear hr3 hb3 hk3 hrw xf x0
            obtain ⟨m, hm⟩ : ∃ m, r.said.length = m := ⟨_, rfl⟩
            rw [hm] at HRW HNX hsn
            clear hm
            go_wp2_with (at_builtin; refine lg.wpList_append_row _ rfl (.tmp 38) (.tmp 41) 38 rfl 3 i0 (.int .i64 0) 1 8 Tryz.underlying38 hi hz0 hz1 hz2 rfl (by decide) vs m (r.said.map intV) rfl (HRW.out.frame fun g hg => Below.heap_alloc _ _ _ (HRW.out.lt hg)) ⟨_, 0, none⟩ 1 1 [.int .i64 ((k : Int) + 1)] rfl rfl (cell_one_new _ _ _) (by simp [Value.oneCell']) (by omega) (by unfold maxLen; omega) (by omega) _ rfl ?_)
            intro g cap w5 hown hg hat hglt
            have hrb5 : w5.heap[rb]? = _ := (hg.block rb (by rw [World.size_alloc]; have := HR3.out.1.rlt; omega) (fun e => row_ty HRW.out HR3.out.1.1 (by decide) e.symm)).trans ((Below.heap_alloc _ _ _ HR3.out.1.rlt).trans HR3.out.1.1)
            have y2 : w5.cell? ⟨rb, 2, none⟩ = some vs := cell_of hrb5 rfl
            have yf : w5.frozen? ⟨rb, 2, none⟩ = false := by simp [World.frozen?, hrb5]
            have HN5 := Lib.hid (HNX.out w2 w3 w5 _ g cap vn' rows' HB2.out HR3.out.1 HR3.out.2.1 HR3.out.2.2 hg hown (by rw [World.size_alloc]; exact hat))
            clear hown hg hat hglt hrb5 x1 x2 xf2
            go_wp2_with fail
            go_roundg (gk - 1)
            case rel => exact ⟨k + 1, _, _, _, _, by omega, by go_num, HN5.out⟩
            case measure => omega
      · have hki : ¬ (k : Int) < (n : Int) := by omega
        have h8 := HI.out.2.2.2.2.2.2.2
        have hend : wholeO r = RES := by
          rw [← HRES.out, ← HI.out.2.1, List.drop_eq_nil_of_le (by rw [HNL.out]; omega)]; rfl
        have HWH := Lib.hid (whole_any (HT.out.on h8) HI.out.1 (by rcases HI.out.2.2.2.2.1 with h | h
                                                                   · exact .inl h
                                                                   · exact .inr h.1) (by have := HI.out.2.2.2.1; omega))
        rw [hend] at HWH
        unfold WholePost at HWH
        have HB8 := Lib.hid h8
        have HJ := Lib.hid HI.out.2.2.2.2.2.2.1
        clear h8 hend hkn
        obtain ⟨p, nds, ln, er⟩ := RES
        go_wp2_with fail
        refine HWH.out.mono ?_
        rintro e w2 ⟨v, rfl, hnj, hb2⟩
        obtain ⟨va, vc, hvf, -, -⟩ := hnj.nodes
        have hJ2 := (hb2.block N (Array.getElem?_eq_some_iff.1 HJ.out).1).trans HJ.out
        have n0 : w2.cell? ⟨N, 0, none⟩ = some (.int .i64 0) := cell_of hJ2 rfl
        have n1 : w2.cell? ⟨N, 1, none⟩ = some (.slice none 0 0) := cell_of hJ2 rfl
        have f0 : w2.frozen? ⟨N, 0, none⟩ = false := by simp [World.frozen?, hJ2]
        have f1 : w2.frozen? ⟨N, 1, none⟩ = false := by simp [World.frozen?, hJ2]
        subst hvf
        have HE : Hid (∀ w7, w7.heap = ((w2.setCell ⟨N, 0, none⟩ (.int .i64 p)).setCell ⟨N, 1, none⟩ (.slice va nds.length vc)).heap → w7.os = w2.os → w7.tape = w2.tape → w7.output = w2.output →
            WholePost (p, nds, ln, er) w (.returned (.tuple #[.agg #[.int .i64 p, .slice va nds.length vc], .int .i64 ln, .int .i64 er])) w7) := Lib.hid (fun w7 e1 e2 e3 e4 => by
          have hbb := HB8.out.trans (hb2.mono HB8.out.size)
          have hb7 : Below w.heap.size w w7 := below_same ((hbb.setCell (p := ⟨N, 0, none⟩) (by show w.heap.size ≤ N; have := HNN.out; omega) _).setCell (p := ⟨N, 1, none⟩) (by show w.heap.size ≤ N; have := HNN.out; omega) _) e1 e2 e3 e4
          refine ⟨.slice va nds.length vc, rfl, fun w8 hf => hnj w8 (fun b c t fr hb ht => ?_), hb7⟩
          refine hf b c t fr ?_ ht
          rw [e1]
          exact frameJ_set (setCell_heap hJ2) b c t fr (frameJ_set hJ2 b c t fr hb ht) ht)
        clear hnj hb2 hJ2
        go_wp2_with fail
        exact bodyPost_ret (v := .tuple #[.agg #[.int .i64 p, .slice va nds.length vc], .int .i64 ln, .int .i64 er]) (by simp [results, Tryz.f7, go_sem, n0, n1]) rfl (HE.out _ rfl rfl rfl rfl)
end Go.Proofs.YtimjpgmgpgpanaaGreatDoor.sc

/- DiskKept returns true: the script's rounds, and the crash behind them. -/
import Derived.Test.YtdajpaigahhhcaaZa
namespace Go.Proofs.Ytdajpaigahhhcaa.dsk
set_option linter.unusedSimpArgs false
set_option linter.unusedVariables false
open Go.RowKit

theorem ops_at {w w1 : World} {a : Option Addr} {l : List Opn} (hr : Ops w w.heap.size a l) (hb : Below w.heap.size w w1) : Ops w1 w1.heap.size a l := fun hl => by
  obtain ⟨b, o, e, hlt, hc⟩ := hr.below hb hl
  exact ⟨b, o, e, by have := hb.size; omega, hc⟩
theorem heavy_at {w w1 : World} {a : Option Addr} {l : List Opn} {cap : Nat} (hr : Ops w w.heap.size a l) (hb : Below w.heap.size w w1) (hl : l.length ≤ cap) (hc : l.length ≤ 9223372036854775807) :
    Calls Try.prog 21 #[.slice a l.length cap] w1 fun e w' => (∃ h, e = .returned (.bool h) ∧ (h = false → l.length ≤ 300)) ∧ Below w1.heap.size w1 w' :=
  heavy_any l a cap w1 (ops_at hr hb) hl hc
theorem two_facts {w wr : World} {F : Nat → Prop} {d : Nat} {x x2 : D} {vs : List Value} {ops : List Opn} {u v : Value} {p : Opn} {c : Chg} (h : KIn w F d x vs ops u v wr) (hx : x2 = { x with loose := x.loose ++ [c] }) (hm : Mat p c) :
    x2.off = false ∧ x2.left = -1 ∧ states x2 = states x ++ [x2.now] ∧ Mats (ops ++ [p]) x2.loose := by
  refine ⟨by rw [hx]; exact h.off, by rw [hx]; exact h.left, states_snoc x c hx, ?_⟩
  rw [hx]
  exact h.mats.snoc hm
theorem two_len {x x2 : D} {c : Chg} {k : Nat} (hx : x2 = { x with loose := x.loose ++ [c] }) (h : x.loose.length ≤ k) : x2.loose.length ≤ k + 1 := by
  rw [hx]
  show (x.loose ++ [c]).length ≤ k + 1
  rw [List.length_append]
  simp
  exact h
theorem grown_kind {w w' : World} {B e size n : Nat} {v : Value} {xs : List Value} (h : w.ownsRow B e size v n xs) (hg : w.grownBy w' v.ownBlock) {k t : Nat} {C : Array Value} (hk : w.heap[k]? = some (.cells C t (0, 0))) (ht : t ≠ e) : w'.heap[k]? = some (.cells C t (0, 0)) := by
  rw [hg.block k (Array.getElem?_eq_some_iff.1 hk).1 fun e => ?_]
  · exact hk
  · obtain ⟨_, _, c, hc⟩ := own_lt h e.symm
    rw [hk] at hc
    injection hc with h1
    injection h1 with h2 h3
    exact ht h3
theorem start_of {w w2 w3 : World} {n : Nat} {v3 : Value} (hd : IsDisk w2 (· = w.heap.size) w.heap.size (D.fresh n)) (hb2 : Below w.heap.size w w2) (hr : w3.ownsRow w2.heap.size 9 1 v3 16 ((firsts (fun _ => empty) 16).map Value.string)) (hb : Below w2.heap.size w2 w3) :
    KRel w w.heap.size 0 (.slice (some ⟨w3.heap.size, 0, none⟩) 1 1) (.slice none 0 0) (w3.alloc (.cells #[v3] 48)) := by
  have hd3 := hd.below hb
  have hsz := hb2.size
  have hsz3 := hb.size
  refine ⟨_, D.fresh n, [v3], [], ⟨hd3.below (below_alloc _ _), fun k hk => by rw [hk]; exact Nat.le_refl _, (hb2.trans (hb.mono hsz)).trans ((below_alloc _ _).mono (by omega)), rfl, rfl, ?_, Mats.nil⟩, Nat.le_refl _⟩
  exact Mem.one (f := fun _ => empty) ⟨own_mono hr hsz, off_new hr fun k hk => hd.lt hk⟩ (fun k hk => hd3.lt hk) (by omega)
theorem KIn.on {w wr w' : World} {F : Nat → Prop} {d : Nat} {x : D} {vs : List Value} {ops : List Opn} {u v : Value} (h : KIn w F d x vs ops u v wr) (hb : Below wr.heap.size wr w') : KIn w F d x vs ops u v w' :=
  ⟨h.disk.below hb, h.lo, h.below.trans (hb.mono h.below.size), h.off, h.left, h.mem.below hb, h.mats⟩
theorem alloc_at (W : World) (o : Obj) : (W.alloc o).heap[W.heap.size]? = some o := heap_alloc_new W o
theorem alloc_at2 (W : World) (o' o : Obj) : ((W.alloc o').alloc o).heap[W.heap.size + 1]? = some o := by
  have h := alloc_at (W.alloc o') o
  rwa [World.size_alloc] at h
theorem range14 {W : World} {b : Nat} {p : Opn} (h : W.heap[b]? = some (.cells p.cells.toArray 41 (0, 0))) : W.rangeAt b 0 p.cells := fun j v hj => by
  rw [Nat.zero_add, cell_of_row W b j _ _ _ h]
  simpa using hj
set_option maxHeartbeats 16000000 in
set_option maxRecDepth 100000 in
theorem law_kept (room : Int) (l : List Opn) (a : Option Addr) (cap : Nat) (n m : Int) (w : World) (hr : Ops w w.heap.size a l) (hl : l.length ≤ cap) (hc : l.length ≤ 9223372036854775807)
    (hn : fit n) (hm : fit m) :
    Calls Try.prog 6 #[.int .i64 room, .slice a l.length cap, .int .i64 n, .int .i64 m] w fun e w' => e = .returned (.bool true) ∧ Below w.heap.size w w' := by
  by_cases hbad : room < 1 ∨ 4194304 < room
  · have HN := Lib.hid (new_bad room hbad w)
    clear hbad
    go_enter Try.func6, Try.ntmps6
    go_wp2_with fail
    refine HN.out.mono ?_
    rintro e w1 ⟨rfl, rfl⟩
    go_wp2_with fail
    refine (works_any _).mono ?_
    rintro e w2 ⟨rfl, hb⟩
    have HB := Lib.hid hb; clear hb
    go_wp2_with fail
    go_ret
    exact ⟨rfl, HB.out⟩
  · obtain ⟨rm, rfl⟩ : ∃ r : Nat, room = r := ⟨room.toNat, by omega⟩
    have HN := Lib.hid (new_good rm (by omega) (by omega) w)
    have HR := Lib.hid hr
    have HH := Lib.hid (fun w1 (hb : Below w.heap.size w w1) => heavy_at hr hb hl hc)
    clear hbad hr
    obtain ⟨i0, hi, hz0, hz1, hz2⟩ := info_parts info48
    obtain ⟨i1, ki, kz0, kz1, kz2⟩ := info_parts info41z
    go_enter Try.func6, Try.ntmps6
    go_wp2_with fail
    refine HN.out.mono ?_
    rintro e w1 ⟨rfl, hd, hb, hs⟩
    have HD := Lib.hid hd
    have HB := Lib.hid hb
    clear hd hb hs
    go_wp2_with fail
    refine (HH.out w1 HB.out).mono ?_
    rintro e w2 ⟨⟨hv, rfl, h300⟩, hb⟩
    have HD2 := Lib.hid (HD.out.below hb)
    have HB2 := Lib.hid (HB.out.trans (hb.mono HB.out.size))
    clear hb HD HB
    cases hv
    case true =>
      clear h300
      go_wp2_with fail
      refine (works_any _).mono ?_
      rintro e w3 ⟨rfl, hb⟩
      have HB3 := Lib.hid (HB2.out.trans (hb.mono HB2.out.size)); clear hb
      go_wp2_with fail
      go_ret
      exact ⟨rfl, HB3.out⟩
    have H300 := Lib.hid (h300 rfl)
    clear h300
    go_wp2_with fail
    refine (all_at (f := fun _ => empty) rfl rfl _ _ _ HD2.out).mono ?_
    rintro e w3 ⟨v3, rfl, hrow, hb⟩
    obtain ⟨g3, c3, rfl⟩ := row_form hrow
    have HS := Lib.hid (start_of HD2.out HB2.out hrow hb)
    clear hrow hb HD2 HB2
    obtain ⟨d, hd⟩ : ∃ d, w.heap.size = d := ⟨_, rfl⟩
    have HDD := Lib.hid hd
    go_wp2_with fail
    go_loopw [11, 12, 35] (fun u v i wr => ∃ k : Nat, k ≤ l.length ∧ i = .int .i64 k ∧ KRel w w.heap.size k u v wr) (fun _ _ i _ => l.length - (intOf i).toNat)
    case atStart => exact ⟨0, Nat.zero_le _, rfl, HS.out⟩
    case round =>
      obtain ⟨k, hk, rfl, F, x, vs, ops, hki, hle⟩ := hrel
      subst hd
      have HKI := Lib.hid hki
      have HLE := Lib.hid hle
      have HST := Lib.hid (fun (_ : Unit) => states_length x)
      have HOL := Lib.hid (show ops.length ≤ 300 by have := hki.mats.1; have := H300.out; omega)
      have HSTL := Lib.hid (fun (_ : Unit) => show (states x).length ≤ 301 by rw [states_length]; have := H300.out; omega)
      have HLN := Lib.hid (show x.loose.length ≤ 1099511627776 by have := H300.out; omega)
      by_cases hlt : k < l.length
      · obtain ⟨b0, o0, rfl, hbl, hcs⟩ := HR.out (by rintro rfl; simp at hlt)
        obtain ⟨p, ep⟩ : ∃ p, l.getD k noOp = p := ⟨_, rfl⟩
        have hck : wr.rangeAt b0 (o0 + k * 5) p.cells := by
          intro j v hv
          rw [← ep] at hv
          exact (hki.below.cell (p := ⟨b0, o0 + k * 5 + j, none⟩) hbl).trans (hcs k hlt j v hv)
        have HCK := Lib.hid hck
        clear hcs hck ep hki hle
        by_cases hk0 : p.kind = 0
        · have HK := Lib.hid hk0
          have hkb0 : (p.kind == 0) = true := by simp [hk0]
          clear hk0
          obtain ⟨E, x2, hcall, htwo⟩ := append_two HKI.out.off HKI.out.left HK.out
          have HC := Lib.hid (fun (_ : Unit) => hcall)
          clear hcall
          by_cases hE : E = 0
          · have hx2 : ∃ c, x2 = { x with loose := x.loose ++ [c] } ∧ Mat p c := by
              rcases htwo with ⟨h, _⟩ | ⟨_, h⟩
              · exact absurd hE h
              · exact h
            obtain ⟨c, hx2, hmat⟩ := hx2
            subst hE
            have HX2 := Lib.hid (fun (_ : Unit) => two_facts HKI.out hx2 hmat)
            have HXL := Lib.hid (two_len hx2 HLE.out)
            have HOFF := Lib.hid (HX2.out ()).1
            clear htwo hx2 hmat
            go_wp2_with (first | (refine wpList_load_mid rfl 41 (.tmp 37) rfl b0 (o0 + k * 5) rfl [.int .i64 p.kind, .int .i64 p.f, .int .i64 p.n, .int .i64 p.m, .string p.s] _ HCK.out Try.underlying41 rfl info41 ?_))
            refine (append_at (HC.out ()) _ F w.heap.size (HKI.out.disk.below (below_alloc _ (.cells #[.int .i64 p.kind, .int .i64 p.f, .int .i64 p.n, .int .i64 p.m, .string p.s] 41))) HLN.out).mono ?_
            rintro e w3 ⟨rfl, hp⟩
            have KM0 := Lib.hid (HKI.out.called (p := p) hp)
            clear hp
            go_wp2_with fail
            refine wp_region_held (S := fun W => W.heap[wr.heap.size]? = some (.cells p.cells.toArray 41 (0, 0))) (by kernel_rfl) ?_
            have KM1 := Lib.hid (KM0.out.on (below_drew _))
            have hHeld := KM1.out.at14
            refine wpAnyH_take (i := 0) (v := ?v1) rfl (by kernel_rfl) (by kernel_rfl) (by kernel_rfl) (fun _ _ _ h => h) (Or.inl ⟨by rfl, ?hy1⟩) (by assumption) ?rest1
            case hy1 => (intro w0 hSw; (try dsimp only at hSw); go_simp; try with_reducible rfl)
            try simp only [Act.put, List.setIfInBounds_toArray, List.set_cons_zero, List.set_cons_succ]
            refine wpAnyH_take (i := 1) (v := ?v2) rfl (by kernel_rfl) (by kernel_rfl) (by kernel_rfl) (fun _ _ _ h => h) (Or.inl ⟨by rfl, ?hy2⟩) (by assumption) ?rest2
            case hy2 => (intro w0 hSw; (try dsimp only at hSw); go_simp; try with_reducible rfl)
            try simp only [Act.put, List.setIfInBounds_toArray, List.set_cons_zero, List.set_cons_succ]
            refine wpAnyH_take (i := 5) (v := ?v3) rfl (by kernel_rfl) (by kernel_rfl) (by kernel_rfl) (fun _ _ _ h => h) (Or.inl ⟨by rfl, ?hy3⟩) (by assumption) ?rest3
            case hy3 => (intro w0 hSw; (try dsimp only at hSw); go_simp; try with_reducible rfl)
            try simp only [Act.put, List.setIfInBounds_toArray, List.set_cons_zero, List.set_cons_succ]
            refine wpAnyH_take (i := 6) (v := .agg #[.int .i64 p.kind, .int .i64 p.f, .int .i64 p.n, .int .i64 p.m, .string p.s]) rfl (by kernel_rfl) (by kernel_rfl) (by kernel_rfl) (fun _ _ _ h => h) (yieldsIf_load_mid (by rfl) 41 (.tmp 14) rfl wr.heap.size 0 (by simp [Act.eval]) [.int .i64 p.kind, .int .i64 p.f, .int .i64 p.n, .int .i64 p.m, .string p.s] _ (fun W hW => range14 hW) Try.underlying41 rfl info41) (by assumption) ?_
            try simp only [Act.put, List.setIfInBounds_toArray, List.set_cons_zero, List.set_cons_succ]
            refine wpAnyH_ready (rs := [2, 7]) (by kernel_rfl) (by simp) ?_
            refine (AllReadyH.cons rfl (fun K hK => ?_) (AllReadyH.cons rfl (fun K hK => ?_) AllReadyH.nil))
            · go_simp
              go_at_call 27
              refine (all_at rfl HOFF.out _ _ w.heap.size KM1.out.disk).mono ?_
              rintro e W2 ⟨xv, rfl, hrow, hb2⟩
              obtain ⟨gx, cx, rfl⟩ := row_form hrow
              have HR2 := Lib.hid (KM1.out.row hrow)
              have KM2 := Lib.hid (KM1.out.on hb2)
              clear hrow hb2
              refine hK.out _ _ ?_ (fun hHeld => ?_)
              · exact KM2.out.at14
              clear hK K
              try simp only [Act.put, List.setIfInBounds_toArray, List.set_cons_zero, List.set_cons_succ]
              refine wpAnyH_ready (rs := [3, 7]) (by kernel_rfl) (by simp) ?_
              refine (AllReadyH.cons rfl (fun K hK => ?_) (AllReadyH.cons rfl (fun K hK => ?_) AllReadyH.nil))
              · go_simp
                refine hK.out _ _ ?_ (fun hHeld => ?_)
                · exact (KM2.out.on (below_alloc _ _)).at14
                clear hK K
                try simp only [Act.put, List.setIfInBounds_toArray, List.set_cons_zero, List.set_cons_succ]
                have KM3 := Lib.hid (KM2.out.on (below_alloc _ (.cells #[.slice (some ⟨gx, 0, none⟩) 16 cx] 48)))
                have HR3 := Lib.hid (HR2.out.below (below_alloc _ (.cells #[.slice (some ⟨gx, 0, none⟩) 16 cx] 48)))
                have H33 := Lib.hid (alloc_at W2 (.cells #[.slice (some ⟨gx, 0, none⟩) 16 cx] 48))
                refine wpAnyH_ready (rs := [4, 7]) (by kernel_rfl) (by simp) ?_
                refine (AllReadyH.cons rfl (fun K hK => ?_) (AllReadyH.cons rfl (fun K hK => ?_) AllReadyH.nil))
                · refine step_append_lies _ (by rfl) (.tmp 75) (.tmp 78) 52 (by rfl) w.heap.size 48 i0 (.slice none 0 0) 1 24 Try.underlying52 hi hz0 hz1 hz2 rfl (by decide) u11 (states x).length vs (by rfl) KM3.out.mem.st ⟨_, 0, none⟩ 1 1 [.slice (some ⟨gx, 0, none⟩) 16 cx] (by rfl) (by rfl) (World.news_of_block H33.out) (by intro u hu; rw [List.mem_singleton.1 hu]; exact own_one HR3.out.1) (by decide) (by have := HSTL.out (); unfold maxLen; omega) (by have := HSTL.out (); omega) KM3.out.below.size _ rfl ?_
                  intro g cap4 W4 hown hg hat hlt
                  have KM4 := Lib.hid (KM3.out.push HR3.out hown hg hat)
                  clear hown hg hat hlt
                  refine hK.out _ _ ?_ (fun hHeld => ?_)
                  · exact KM4.out.at14
                  clear hK K
                  try simp only [Act.put, List.setIfInBounds_toArray, List.set_cons_zero, List.set_cons_succ]
                  refine wpAnyH_ready (rs := [7]) (by kernel_rfl) (by simp) ?_
                  refine (AllReadyH.cons rfl (fun K hK => ?_) AllReadyH.nil)
                  go_simp
                  refine hK.out _ _ ?_ (fun hHeld => ?_)
                  · exact (KM4.out.on (below_alloc _ _)).at14
                  clear hK K
                  try simp only [Act.put, List.setIfInBounds_toArray, List.set_cons_zero, List.set_cons_succ]
                  have KM5 := Lib.hid (KM4.out.on (below_alloc _ (.cells #[.int .i64 p.kind, .int .i64 p.f, .int .i64 p.n, .int .i64 p.m, .string p.s] 41)))
                  have H75 := Lib.hid (alloc_at W4 (.cells #[.int .i64 p.kind, .int .i64 p.f, .int .i64 p.n, .int .i64 p.m, .string p.s] 41))
                  refine wpAnyH_ready (rs := [8]) (by kernel_rfl) (by simp) ?_
                  refine (AllReadyH.cons rfl (fun K hK => ?_) AllReadyH.nil)
                  refine step_append_lies _ (by rfl) (.tmp 80) (.tmp 82) 35 (by rfl) w.heap.size 41 i1 (.agg #[.int .i64 0, .int .i64 0, .int .i64 0, .int .i64 0, .string ⟨#[]⟩]) 5 48 Try.underlying35 ki kz0 kz1 kz2 rfl (by decide) u12 ops.length (ops.flatMap Opn.cells) (by rfl) KM5.out.mem.op ⟨_, 0, none⟩ 1 1 p.cells (by rfl) (by rfl) (World.news_of_block H75.out) (by simp [Opn.cells, Value.oneCell']) (by decide) (by have := HOL.out; unfold maxLen; omega) (by have := HOL.out; omega) KM5.out.below.size _ rfl ?_
                  intro g cap8 W6 hown hg hat hlt
                  have KE := Lib.hid (KM5.out.more hown hg hat (HX2.out ()).1 (HX2.out ()).2.1 (HX2.out ()).2.2.1 (HX2.out ()).2.2.2)
                  have HLD := Lib.hid (KM5.out.held hg)
                  clear hown hg hat hlt
                  refine hK.out _ _ ?_ (fun hHeld => ?_)
                  · exact HLD.out
                  clear hK K
                  try simp only [Act.put, List.setIfInBounds_toArray, List.set_cons_zero, List.set_cons_succ]
                  refine wpAnyH_take (i := 9) (v := ?v4) rfl (by kernel_rfl) (by kernel_rfl) (by kernel_rfl) (fun _ _ _ h => h) (Or.inl ⟨by rfl, ?hy4⟩) (by assumption) ?rest4
                  case hy4 => (intro w0 hSw; (try dsimp only at hSw); go_simp; try with_reducible rfl)
                  try simp only [Act.put, List.setIfInBounds_toArray, List.set_cons_zero, List.set_cons_succ]
                  refine wpAnyH_take (i := 10) (v := ?v5) rfl (by kernel_rfl) (by kernel_rfl) (by kernel_rfl) (fun _ _ _ h => h) (Or.inl ⟨by rfl, ?hy5⟩) (by assumption) ?rest5
                  case hy5 => (intro w0 hSw; (try dsimp only at hSw); go_simp; try with_reducible rfl)
                  try simp only [Act.put, List.setIfInBounds_toArray, List.set_cons_zero, List.set_cons_succ]
                  refine wpAnyH_done (by kernel_rfl) ?_ _
                  go_wp2
                  go_roundw
                  case rel => exact ⟨k + 1, by omega, by go_num, _, _, _, _, KE.out, HXL.out⟩
                  case measure => simp [intOf]; omega
                · go_simp
                  refine hK.out _ _ ?_ (fun hHeld => ?_)
                  · exact (KM3.out.on (below_alloc _ _)).at14
                  clear hK K
                  try simp only [Act.put, List.setIfInBounds_toArray, List.set_cons_zero, List.set_cons_succ]
                  have KM4 := Lib.hid (KM3.out.on (below_alloc _ (.cells #[.int .i64 p.kind, .int .i64 p.f, .int .i64 p.n, .int .i64 p.m, .string p.s] 41)))
                  have HR4 := Lib.hid (HR3.out.below (below_alloc _ (.cells #[.int .i64 p.kind, .int .i64 p.f, .int .i64 p.n, .int .i64 p.m, .string p.s] 41)))
                  have H74 := Lib.hid (alloc_at2 W2 (.cells #[.slice (some ⟨gx, 0, none⟩) 16 cx] 48) (.cells #[.int .i64 p.kind, .int .i64 p.f, .int .i64 p.n, .int .i64 p.m, .string p.s] 41))
                  have H34 := Lib.hid (((below_alloc _ (.cells #[.int .i64 p.kind, .int .i64 p.f, .int .i64 p.n, .int .i64 p.m, .string p.s] 41)).block _ (Array.getElem?_eq_some_iff.1 H33.out).1).trans H33.out)
                  refine wpAnyH_ready (rs := [4]) (by kernel_rfl) (by simp) ?_
                  refine (AllReadyH.cons rfl (fun K hK => ?_) AllReadyH.nil)
                  refine step_append_lies _ (by rfl) (.tmp 75) (.tmp 78) 52 (by rfl) w.heap.size 48 i0 (.slice none 0 0) 1 24 Try.underlying52 hi hz0 hz1 hz2 rfl (by decide) u11 (states x).length vs (by rfl) KM4.out.mem.st ⟨_, 0, none⟩ 1 1 [.slice (some ⟨gx, 0, none⟩) 16 cx] (by rfl) (by rfl) (World.news_of_block H34.out) (by intro u hu; rw [List.mem_singleton.1 hu]; exact own_one HR4.out.1) (by decide) (by have := HSTL.out (); unfold maxLen; omega) (by have := HSTL.out (); omega) KM4.out.below.size _ rfl ?_
                  intro g cap4 W5 hown hg hat hlt
                  have KM5 := Lib.hid (KM4.out.push HR4.out hown hg hat)
                  have H75 := Lib.hid (grown_kind KM4.out.mem.st hg H74.out (by decide))
                  clear hown hg hat hlt
                  refine hK.out _ _ ?_ (fun hHeld => ?_)
                  · exact KM5.out.at14
                  clear hK K
                  try simp only [Act.put, List.setIfInBounds_toArray, List.set_cons_zero, List.set_cons_succ]
                  refine wpAnyH_ready (rs := [8]) (by kernel_rfl) (by simp) ?_
                  refine (AllReadyH.cons rfl (fun K hK => ?_) AllReadyH.nil)
                  refine step_append_lies _ (by rfl) (.tmp 80) (.tmp 82) 35 (by rfl) w.heap.size 41 i1 (.agg #[.int .i64 0, .int .i64 0, .int .i64 0, .int .i64 0, .string ⟨#[]⟩]) 5 48 Try.underlying35 ki kz0 kz1 kz2 rfl (by decide) u12 ops.length (ops.flatMap Opn.cells) (by rfl) KM5.out.mem.op ⟨_, 0, none⟩ 1 1 p.cells (by rfl) (by rfl) (World.news_of_block H75.out) (by simp [Opn.cells, Value.oneCell']) (by decide) (by have := HOL.out; unfold maxLen; omega) (by have := HOL.out; omega) KM5.out.below.size _ rfl ?_
                  intro g cap8 W6 hown hg hat hlt
                  have KE := Lib.hid (KM5.out.more hown hg hat (HX2.out ()).1 (HX2.out ()).2.1 (HX2.out ()).2.2.1 (HX2.out ()).2.2.2)
                  have HLD := Lib.hid (KM5.out.held hg)
                  clear hown hg hat hlt
                  refine hK.out _ _ ?_ (fun hHeld => ?_)
                  · exact HLD.out
                  clear hK K
                  try simp only [Act.put, List.setIfInBounds_toArray, List.set_cons_zero, List.set_cons_succ]
                  refine wpAnyH_take (i := 9) (v := ?v6) rfl (by kernel_rfl) (by kernel_rfl) (by kernel_rfl) (fun _ _ _ h => h) (Or.inl ⟨by rfl, ?hy6⟩) (by assumption) ?rest6
                  case hy6 => (intro w0 hSw; (try dsimp only at hSw); go_simp; try with_reducible rfl)
                  try simp only [Act.put, List.setIfInBounds_toArray, List.set_cons_zero, List.set_cons_succ]
                  refine wpAnyH_take (i := 10) (v := ?v7) rfl (by kernel_rfl) (by kernel_rfl) (by kernel_rfl) (fun _ _ _ h => h) (Or.inl ⟨by rfl, ?hy7⟩) (by assumption) ?rest7
                  case hy7 => (intro w0 hSw; (try dsimp only at hSw); go_simp; try with_reducible rfl)
                  try simp only [Act.put, List.setIfInBounds_toArray, List.set_cons_zero, List.set_cons_succ]
                  refine wpAnyH_done (by kernel_rfl) ?_ _
                  go_wp2
                  go_roundw
                  case rel => exact ⟨k + 1, by omega, by go_num, _, _, _, _, KE.out, HXL.out⟩
                  case measure => simp [intOf]; omega
              · go_simp
                refine hK.out _ _ ?_ (fun hHeld => ?_)
                · exact (KM2.out.on (below_alloc _ _)).at14
                clear hK K
                try simp only [Act.put, List.setIfInBounds_toArray, List.set_cons_zero, List.set_cons_succ]
                have KM3 := Lib.hid (KM2.out.on (below_alloc _ (.cells #[.int .i64 p.kind, .int .i64 p.f, .int .i64 p.n, .int .i64 p.m, .string p.s] 41)))
                have HR3 := Lib.hid (HR2.out.below (below_alloc _ (.cells #[.int .i64 p.kind, .int .i64 p.f, .int .i64 p.n, .int .i64 p.m, .string p.s] 41)))
                have H73 := Lib.hid (alloc_at W2 (.cells #[.int .i64 p.kind, .int .i64 p.f, .int .i64 p.n, .int .i64 p.m, .string p.s] 41))
                refine wpAnyH_ready (rs := [3]) (by kernel_rfl) (by simp) ?_
                refine (AllReadyH.cons rfl (fun K hK => ?_) AllReadyH.nil)
                go_simp
                refine hK.out _ _ ?_ (fun hHeld => ?_)
                · exact (KM3.out.on (below_alloc _ _)).at14
                clear hK K
                try simp only [Act.put, List.setIfInBounds_toArray, List.set_cons_zero, List.set_cons_succ]
                have KM4 := Lib.hid (KM3.out.on (below_alloc _ (.cells #[.slice (some ⟨gx, 0, none⟩) 16 cx] 48)))
                have HR4 := Lib.hid (HR3.out.below (below_alloc _ (.cells #[.slice (some ⟨gx, 0, none⟩) 16 cx] 48)))
                have H34 := Lib.hid (alloc_at2 W2 (.cells #[.int .i64 p.kind, .int .i64 p.f, .int .i64 p.n, .int .i64 p.m, .string p.s] 41) (.cells #[.slice (some ⟨gx, 0, none⟩) 16 cx] 48))
                have H74 := Lib.hid (((below_alloc _ (.cells #[.slice (some ⟨gx, 0, none⟩) 16 cx] 48)).block _ (Array.getElem?_eq_some_iff.1 H73.out).1).trans H73.out)
                refine wpAnyH_ready (rs := [4]) (by kernel_rfl) (by simp) ?_
                refine (AllReadyH.cons rfl (fun K hK => ?_) AllReadyH.nil)
                refine step_append_lies _ (by rfl) (.tmp 75) (.tmp 78) 52 (by rfl) w.heap.size 48 i0 (.slice none 0 0) 1 24 Try.underlying52 hi hz0 hz1 hz2 rfl (by decide) u11 (states x).length vs (by rfl) KM4.out.mem.st ⟨_, 0, none⟩ 1 1 [.slice (some ⟨gx, 0, none⟩) 16 cx] (by rfl) (by rfl) (World.news_of_block H34.out) (by intro u hu; rw [List.mem_singleton.1 hu]; exact own_one HR4.out.1) (by decide) (by have := HSTL.out (); unfold maxLen; omega) (by have := HSTL.out (); omega) KM4.out.below.size _ rfl ?_
                intro g cap4 W5 hown hg hat hlt
                have KM5 := Lib.hid (KM4.out.push HR4.out hown hg hat)
                have H75 := Lib.hid (grown_kind KM4.out.mem.st hg H74.out (by decide))
                clear hown hg hat hlt
                refine hK.out _ _ ?_ (fun hHeld => ?_)
                · exact KM5.out.at14
                clear hK K
                try simp only [Act.put, List.setIfInBounds_toArray, List.set_cons_zero, List.set_cons_succ]
                refine wpAnyH_ready (rs := [8]) (by kernel_rfl) (by simp) ?_
                refine (AllReadyH.cons rfl (fun K hK => ?_) AllReadyH.nil)
                refine step_append_lies _ (by rfl) (.tmp 80) (.tmp 82) 35 (by rfl) w.heap.size 41 i1 (.agg #[.int .i64 0, .int .i64 0, .int .i64 0, .int .i64 0, .string ⟨#[]⟩]) 5 48 Try.underlying35 ki kz0 kz1 kz2 rfl (by decide) u12 ops.length (ops.flatMap Opn.cells) (by rfl) KM5.out.mem.op ⟨_, 0, none⟩ 1 1 p.cells (by rfl) (by rfl) (World.news_of_block H75.out) (by simp [Opn.cells, Value.oneCell']) (by decide) (by have := HOL.out; unfold maxLen; omega) (by have := HOL.out; omega) KM5.out.below.size _ rfl ?_
                intro g cap8 W6 hown hg hat hlt
                have KE := Lib.hid (KM5.out.more hown hg hat (HX2.out ()).1 (HX2.out ()).2.1 (HX2.out ()).2.2.1 (HX2.out ()).2.2.2)
                have HLD := Lib.hid (KM5.out.held hg)
                clear hown hg hat hlt
                refine hK.out _ _ ?_ (fun hHeld => ?_)
                · exact HLD.out
                clear hK K
                try simp only [Act.put, List.setIfInBounds_toArray, List.set_cons_zero, List.set_cons_succ]
                refine wpAnyH_take (i := 9) (v := ?v8) rfl (by kernel_rfl) (by kernel_rfl) (by kernel_rfl) (fun _ _ _ h => h) (Or.inl ⟨by rfl, ?hy8⟩) (by assumption) ?rest8
                case hy8 => (intro w0 hSw; (try dsimp only at hSw); go_simp; try with_reducible rfl)
                try simp only [Act.put, List.setIfInBounds_toArray, List.set_cons_zero, List.set_cons_succ]
                refine wpAnyH_take (i := 10) (v := ?v9) rfl (by kernel_rfl) (by kernel_rfl) (by kernel_rfl) (fun _ _ _ h => h) (Or.inl ⟨by rfl, ?hy9⟩) (by assumption) ?rest9
                case hy9 => (intro w0 hSw; (try dsimp only at hSw); go_simp; try with_reducible rfl)
                try simp only [Act.put, List.setIfInBounds_toArray, List.set_cons_zero, List.set_cons_succ]
                refine wpAnyH_done (by kernel_rfl) ?_ _
                go_wp2
                go_roundw
                case rel => exact ⟨k + 1, by omega, by go_num, _, _, _, _, KE.out, HXL.out⟩
                case measure => simp [intOf]; omega
            · go_simp
              refine hK.out _ _ ?_ (fun hHeld => ?_)
              · exact (KM1.out.on (below_alloc _ _)).at14
              clear hK K
              try simp only [Act.put, List.setIfInBounds_toArray, List.set_cons_zero, List.set_cons_succ]
              have KM2 := Lib.hid (KM1.out.on (below_alloc _ (.cells #[.int .i64 p.kind, .int .i64 p.f, .int .i64 p.n, .int .i64 p.m, .string p.s] 41)))
              have H72 := Lib.hid (alloc_at w3.drew (.cells #[.int .i64 p.kind, .int .i64 p.f, .int .i64 p.n, .int .i64 p.m, .string p.s] 41))
              refine wpAnyH_ready (rs := [2]) (by kernel_rfl) (by simp) ?_
              refine (AllReadyH.cons rfl (fun K hK => ?_) AllReadyH.nil)
              go_simp
              go_at_call 27
              refine (all_at rfl HOFF.out _ _ w.heap.size KM2.out.disk).mono ?_
              rintro e W3 ⟨xv, rfl, hrow, hb2⟩
              obtain ⟨gx, cx, rfl⟩ := row_form hrow
              have HR3 := Lib.hid (KM2.out.row hrow)
              have KM3 := Lib.hid (KM2.out.on hb2)
              have H73 := Lib.hid ((hb2.block _ (Array.getElem?_eq_some_iff.1 H72.out).1).trans H72.out)
              clear hrow hb2
              refine hK.out _ _ ?_ (fun hHeld => ?_)
              · exact KM3.out.at14
              clear hK K
              try simp only [Act.put, List.setIfInBounds_toArray, List.set_cons_zero, List.set_cons_succ]
              refine wpAnyH_ready (rs := [3]) (by kernel_rfl) (by simp) ?_
              refine (AllReadyH.cons rfl (fun K hK => ?_) AllReadyH.nil)
              go_simp
              refine hK.out _ _ ?_ (fun hHeld => ?_)
              · exact (KM3.out.on (below_alloc _ _)).at14
              clear hK K
              try simp only [Act.put, List.setIfInBounds_toArray, List.set_cons_zero, List.set_cons_succ]
              have KM4 := Lib.hid (KM3.out.on (below_alloc _ (.cells #[.slice (some ⟨gx, 0, none⟩) 16 cx] 48)))
              have HR4 := Lib.hid (HR3.out.below (below_alloc _ (.cells #[.slice (some ⟨gx, 0, none⟩) 16 cx] 48)))
              have H34 := Lib.hid (alloc_at W3 (.cells #[.slice (some ⟨gx, 0, none⟩) 16 cx] 48))
              have H74 := Lib.hid (((below_alloc _ (.cells #[.slice (some ⟨gx, 0, none⟩) 16 cx] 48)).block _ (Array.getElem?_eq_some_iff.1 H73.out).1).trans H73.out)
              refine wpAnyH_ready (rs := [4]) (by kernel_rfl) (by simp) ?_
              refine (AllReadyH.cons rfl (fun K hK => ?_) AllReadyH.nil)
              refine step_append_lies _ (by rfl) (.tmp 75) (.tmp 78) 52 (by rfl) w.heap.size 48 i0 (.slice none 0 0) 1 24 Try.underlying52 hi hz0 hz1 hz2 rfl (by decide) u11 (states x).length vs (by rfl) KM4.out.mem.st ⟨_, 0, none⟩ 1 1 [.slice (some ⟨gx, 0, none⟩) 16 cx] (by rfl) (by rfl) (World.news_of_block H34.out) (by intro u hu; rw [List.mem_singleton.1 hu]; exact own_one HR4.out.1) (by decide) (by have := HSTL.out (); unfold maxLen; omega) (by have := HSTL.out (); omega) KM4.out.below.size _ rfl ?_
              intro g cap4 W5 hown hg hat hlt
              have KM5 := Lib.hid (KM4.out.push HR4.out hown hg hat)
              have H75 := Lib.hid (grown_kind KM4.out.mem.st hg H74.out (by decide))
              clear hown hg hat hlt
              refine hK.out _ _ ?_ (fun hHeld => ?_)
              · exact KM5.out.at14
              clear hK K
              try simp only [Act.put, List.setIfInBounds_toArray, List.set_cons_zero, List.set_cons_succ]
              refine wpAnyH_ready (rs := [8]) (by kernel_rfl) (by simp) ?_
              refine (AllReadyH.cons rfl (fun K hK => ?_) AllReadyH.nil)
              refine step_append_lies _ (by rfl) (.tmp 80) (.tmp 82) 35 (by rfl) w.heap.size 41 i1 (.agg #[.int .i64 0, .int .i64 0, .int .i64 0, .int .i64 0, .string ⟨#[]⟩]) 5 48 Try.underlying35 ki kz0 kz1 kz2 rfl (by decide) u12 ops.length (ops.flatMap Opn.cells) (by rfl) KM5.out.mem.op ⟨_, 0, none⟩ 1 1 p.cells (by rfl) (by rfl) (World.news_of_block H75.out) (by simp [Opn.cells, Value.oneCell']) (by decide) (by have := HOL.out; unfold maxLen; omega) (by have := HOL.out; omega) KM5.out.below.size _ rfl ?_
              intro g cap8 W6 hown hg hat hlt
              have KE := Lib.hid (KM5.out.more hown hg hat (HX2.out ()).1 (HX2.out ()).2.1 (HX2.out ()).2.2.1 (HX2.out ()).2.2.2)
              have HLD := Lib.hid (KM5.out.held hg)
              clear hown hg hat hlt
              refine hK.out _ _ ?_ (fun hHeld => ?_)
              · exact HLD.out
              clear hK K
              try simp only [Act.put, List.setIfInBounds_toArray, List.set_cons_zero, List.set_cons_succ]
              refine wpAnyH_take (i := 9) (v := ?v10) rfl (by kernel_rfl) (by kernel_rfl) (by kernel_rfl) (fun _ _ _ h => h) (Or.inl ⟨by rfl, ?hy10⟩) (by assumption) ?rest10
              case hy10 => (intro w0 hSw; (try dsimp only at hSw); go_simp; try with_reducible rfl)
              try simp only [Act.put, List.setIfInBounds_toArray, List.set_cons_zero, List.set_cons_succ]
              refine wpAnyH_take (i := 10) (v := ?v11) rfl (by kernel_rfl) (by kernel_rfl) (by kernel_rfl) (fun _ _ _ h => h) (Or.inl ⟨by rfl, ?hy11⟩) (by assumption) ?rest11
              case hy11 => (intro w0 hSw; (try dsimp only at hSw); go_simp; try with_reducible rfl)
              try simp only [Act.put, List.setIfInBounds_toArray, List.set_cons_zero, List.set_cons_succ]
              refine wpAnyH_done (by kernel_rfl) ?_ _
              go_wp2
              go_roundw
              case rel => exact ⟨k + 1, by omega, by go_num, _, _, _, _, KE.out, HXL.out⟩
              case measure => simp [intOf]; omega

          · have hx2 : x2 = x := by
              rcases htwo with ⟨_, h⟩ | ⟨h, _⟩
              · exact h
              · exact absurd h hE
            subst hx2
            have hE' : (E == 0) = false := by simp [hE]
            have HE := Lib.hid hE
            clear htwo hE
            go_wp2_with (first | (refine wpList_load_mid rfl 41 (.tmp 37) rfl b0 (o0 + k * 5) rfl [.int .i64 p.kind, .int .i64 p.f, .int .i64 p.n, .int .i64 p.m, .string p.s] _ HCK.out Try.underlying41 rfl info41 ?_))
            refine (append_at (HC.out ()) _ F w.heap.size (HKI.out.disk.below (below_alloc _ (.cells #[.int .i64 p.kind, .int .i64 p.f, .int .i64 p.n, .int .i64 p.m, .string p.s] 41))) HLN.out).mono ?_
            rintro e w3 ⟨rfl, hp⟩
            have KM0 := Lib.hid (HKI.out.called (p := p) hp)
            clear hp
            go_wp2_with fail
            go_roundw
            case rel => exact ⟨k + 1, by omega, by go_num, _, _, _, _, KM0.out.same HKI.out.off HKI.out.left HKI.out.mats, by have := HLE.out; omega⟩
            case measure => simp [intOf]; omega
        by_cases hk1 : p.kind = 1
        · have HK := Lib.hid hk1
          have hkb0 : (p.kind == 0) = false := by simp [hk1]
          have hkb1 : (p.kind == 1) = true := by simp [hk1]
          clear hk0 hk1
          obtain ⟨E, x2, hcall, htwo⟩ := cut_two HKI.out.off HKI.out.left (by rw [HK.out]; decide)
          have HC := Lib.hid (fun (_ : Unit) => hcall)
          clear hcall
          by_cases hE : E = 0
          · have hx2 : ∃ c, x2 = { x with loose := x.loose ++ [c] } ∧ Mat p c := by
              rcases htwo with ⟨h, _⟩ | ⟨_, h⟩
              · exact absurd hE h
              · exact h
            obtain ⟨c, hx2, hmat⟩ := hx2
            subst hE
            have HX2 := Lib.hid (fun (_ : Unit) => two_facts HKI.out hx2 hmat)
            have HXL := Lib.hid (two_len hx2 HLE.out)
            have HOFF := Lib.hid (HX2.out ()).1
            clear htwo hx2 hmat
            go_wp2_with (first | (refine wpList_load_mid rfl 41 (.tmp 37) rfl b0 (o0 + k * 5) rfl [.int .i64 p.kind, .int .i64 p.f, .int .i64 p.n, .int .i64 p.m, .string p.s] _ HCK.out Try.underlying41 rfl info41 ?_))
            refine (cut_at (HC.out ()) _ F w.heap.size (HKI.out.disk.below (below_alloc _ (.cells #[.int .i64 p.kind, .int .i64 p.f, .int .i64 p.n, .int .i64 p.m, .string p.s] 41))) HLN.out).mono ?_
            rintro e w3 ⟨rfl, hp⟩
            have KM0 := Lib.hid (HKI.out.called (p := p) hp)
            clear hp
            go_wp2_with fail
            refine wp_region_held (S := fun W => W.heap[wr.heap.size]? = some (.cells p.cells.toArray 41 (0, 0))) (by kernel_rfl) ?_
            have KM1 := Lib.hid (KM0.out.on (below_drew _))
            have hHeld := KM1.out.at14
            refine wpAnyH_take (i := 0) (v := ?v12) rfl (by kernel_rfl) (by kernel_rfl) (by kernel_rfl) (fun _ _ _ h => h) (Or.inl ⟨by rfl, ?hy12⟩) (by assumption) ?rest12
            case hy12 => (intro w0 hSw; (try dsimp only at hSw); go_simp; try with_reducible rfl)
            try simp only [Act.put, List.setIfInBounds_toArray, List.set_cons_zero, List.set_cons_succ]
            refine wpAnyH_take (i := 1) (v := ?v13) rfl (by kernel_rfl) (by kernel_rfl) (by kernel_rfl) (fun _ _ _ h => h) (Or.inl ⟨by rfl, ?hy13⟩) (by assumption) ?rest13
            case hy13 => (intro w0 hSw; (try dsimp only at hSw); go_simp; try with_reducible rfl)
            try simp only [Act.put, List.setIfInBounds_toArray, List.set_cons_zero, List.set_cons_succ]
            refine wpAnyH_take (i := 5) (v := ?v14) rfl (by kernel_rfl) (by kernel_rfl) (by kernel_rfl) (fun _ _ _ h => h) (Or.inl ⟨by rfl, ?hy14⟩) (by assumption) ?rest14
            case hy14 => (intro w0 hSw; (try dsimp only at hSw); go_simp; try with_reducible rfl)
            try simp only [Act.put, List.setIfInBounds_toArray, List.set_cons_zero, List.set_cons_succ]
            refine wpAnyH_take (i := 6) (v := .agg #[.int .i64 p.kind, .int .i64 p.f, .int .i64 p.n, .int .i64 p.m, .string p.s]) rfl (by kernel_rfl) (by kernel_rfl) (by kernel_rfl) (fun _ _ _ h => h) (yieldsIf_load_mid (by rfl) 41 (.tmp 14) rfl wr.heap.size 0 (by simp [Act.eval]) [.int .i64 p.kind, .int .i64 p.f, .int .i64 p.n, .int .i64 p.m, .string p.s] _ (fun W hW => range14 hW) Try.underlying41 rfl info41) (by assumption) ?_
            try simp only [Act.put, List.setIfInBounds_toArray, List.set_cons_zero, List.set_cons_succ]
            refine wpAnyH_ready (rs := [2, 7]) (by kernel_rfl) (by simp) ?_
            refine (AllReadyH.cons rfl (fun K hK => ?_) (AllReadyH.cons rfl (fun K hK => ?_) AllReadyH.nil))
            · go_simp
              go_at_call 27
              refine (all_at rfl HOFF.out _ _ w.heap.size KM1.out.disk).mono ?_
              rintro e W2 ⟨xv, rfl, hrow, hb2⟩
              obtain ⟨gx, cx, rfl⟩ := row_form hrow
              have HR2 := Lib.hid (KM1.out.row hrow)
              have KM2 := Lib.hid (KM1.out.on hb2)
              clear hrow hb2
              refine hK.out _ _ ?_ (fun hHeld => ?_)
              · exact KM2.out.at14
              clear hK K
              try simp only [Act.put, List.setIfInBounds_toArray, List.set_cons_zero, List.set_cons_succ]
              refine wpAnyH_ready (rs := [3, 7]) (by kernel_rfl) (by simp) ?_
              refine (AllReadyH.cons rfl (fun K hK => ?_) (AllReadyH.cons rfl (fun K hK => ?_) AllReadyH.nil))
              · go_simp
                refine hK.out _ _ ?_ (fun hHeld => ?_)
                · exact (KM2.out.on (below_alloc _ _)).at14
                clear hK K
                try simp only [Act.put, List.setIfInBounds_toArray, List.set_cons_zero, List.set_cons_succ]
                have KM3 := Lib.hid (KM2.out.on (below_alloc _ (.cells #[.slice (some ⟨gx, 0, none⟩) 16 cx] 48)))
                have HR3 := Lib.hid (HR2.out.below (below_alloc _ (.cells #[.slice (some ⟨gx, 0, none⟩) 16 cx] 48)))
                have H33 := Lib.hid (alloc_at W2 (.cells #[.slice (some ⟨gx, 0, none⟩) 16 cx] 48))
                refine wpAnyH_ready (rs := [4, 7]) (by kernel_rfl) (by simp) ?_
                refine (AllReadyH.cons rfl (fun K hK => ?_) (AllReadyH.cons rfl (fun K hK => ?_) AllReadyH.nil))
                · refine step_append_lies _ (by rfl) (.tmp 75) (.tmp 78) 52 (by rfl) w.heap.size 48 i0 (.slice none 0 0) 1 24 Try.underlying52 hi hz0 hz1 hz2 rfl (by decide) u11 (states x).length vs (by rfl) KM3.out.mem.st ⟨_, 0, none⟩ 1 1 [.slice (some ⟨gx, 0, none⟩) 16 cx] (by rfl) (by rfl) (World.news_of_block H33.out) (by intro u hu; rw [List.mem_singleton.1 hu]; exact own_one HR3.out.1) (by decide) (by have := HSTL.out (); unfold maxLen; omega) (by have := HSTL.out (); omega) KM3.out.below.size _ rfl ?_
                  intro g cap4 W4 hown hg hat hlt
                  have KM4 := Lib.hid (KM3.out.push HR3.out hown hg hat)
                  clear hown hg hat hlt
                  refine hK.out _ _ ?_ (fun hHeld => ?_)
                  · exact KM4.out.at14
                  clear hK K
                  try simp only [Act.put, List.setIfInBounds_toArray, List.set_cons_zero, List.set_cons_succ]
                  refine wpAnyH_ready (rs := [7]) (by kernel_rfl) (by simp) ?_
                  refine (AllReadyH.cons rfl (fun K hK => ?_) AllReadyH.nil)
                  go_simp
                  refine hK.out _ _ ?_ (fun hHeld => ?_)
                  · exact (KM4.out.on (below_alloc _ _)).at14
                  clear hK K
                  try simp only [Act.put, List.setIfInBounds_toArray, List.set_cons_zero, List.set_cons_succ]
                  have KM5 := Lib.hid (KM4.out.on (below_alloc _ (.cells #[.int .i64 p.kind, .int .i64 p.f, .int .i64 p.n, .int .i64 p.m, .string p.s] 41)))
                  have H75 := Lib.hid (alloc_at W4 (.cells #[.int .i64 p.kind, .int .i64 p.f, .int .i64 p.n, .int .i64 p.m, .string p.s] 41))
                  refine wpAnyH_ready (rs := [8]) (by kernel_rfl) (by simp) ?_
                  refine (AllReadyH.cons rfl (fun K hK => ?_) AllReadyH.nil)
                  refine step_append_lies _ (by rfl) (.tmp 80) (.tmp 82) 35 (by rfl) w.heap.size 41 i1 (.agg #[.int .i64 0, .int .i64 0, .int .i64 0, .int .i64 0, .string ⟨#[]⟩]) 5 48 Try.underlying35 ki kz0 kz1 kz2 rfl (by decide) u12 ops.length (ops.flatMap Opn.cells) (by rfl) KM5.out.mem.op ⟨_, 0, none⟩ 1 1 p.cells (by rfl) (by rfl) (World.news_of_block H75.out) (by simp [Opn.cells, Value.oneCell']) (by decide) (by have := HOL.out; unfold maxLen; omega) (by have := HOL.out; omega) KM5.out.below.size _ rfl ?_
                  intro g cap8 W6 hown hg hat hlt
                  have KE := Lib.hid (KM5.out.more hown hg hat (HX2.out ()).1 (HX2.out ()).2.1 (HX2.out ()).2.2.1 (HX2.out ()).2.2.2)
                  have HLD := Lib.hid (KM5.out.held hg)
                  clear hown hg hat hlt
                  refine hK.out _ _ ?_ (fun hHeld => ?_)
                  · exact HLD.out
                  clear hK K
                  try simp only [Act.put, List.setIfInBounds_toArray, List.set_cons_zero, List.set_cons_succ]
                  refine wpAnyH_take (i := 9) (v := ?v15) rfl (by kernel_rfl) (by kernel_rfl) (by kernel_rfl) (fun _ _ _ h => h) (Or.inl ⟨by rfl, ?hy15⟩) (by assumption) ?rest15
                  case hy15 => (intro w0 hSw; (try dsimp only at hSw); go_simp; try with_reducible rfl)
                  try simp only [Act.put, List.setIfInBounds_toArray, List.set_cons_zero, List.set_cons_succ]
                  refine wpAnyH_take (i := 10) (v := ?v16) rfl (by kernel_rfl) (by kernel_rfl) (by kernel_rfl) (fun _ _ _ h => h) (Or.inl ⟨by rfl, ?hy16⟩) (by assumption) ?rest16
                  case hy16 => (intro w0 hSw; (try dsimp only at hSw); go_simp; try with_reducible rfl)
                  try simp only [Act.put, List.setIfInBounds_toArray, List.set_cons_zero, List.set_cons_succ]
                  refine wpAnyH_done (by kernel_rfl) ?_ _
                  go_wp2
                  go_roundw
                  case rel => exact ⟨k + 1, by omega, by go_num, _, _, _, _, KE.out, HXL.out⟩
                  case measure => simp [intOf]; omega
                · go_simp
                  refine hK.out _ _ ?_ (fun hHeld => ?_)
                  · exact (KM3.out.on (below_alloc _ _)).at14
                  clear hK K
                  try simp only [Act.put, List.setIfInBounds_toArray, List.set_cons_zero, List.set_cons_succ]
                  have KM4 := Lib.hid (KM3.out.on (below_alloc _ (.cells #[.int .i64 p.kind, .int .i64 p.f, .int .i64 p.n, .int .i64 p.m, .string p.s] 41)))
                  have HR4 := Lib.hid (HR3.out.below (below_alloc _ (.cells #[.int .i64 p.kind, .int .i64 p.f, .int .i64 p.n, .int .i64 p.m, .string p.s] 41)))
                  have H74 := Lib.hid (alloc_at2 W2 (.cells #[.slice (some ⟨gx, 0, none⟩) 16 cx] 48) (.cells #[.int .i64 p.kind, .int .i64 p.f, .int .i64 p.n, .int .i64 p.m, .string p.s] 41))
                  have H34 := Lib.hid (((below_alloc _ (.cells #[.int .i64 p.kind, .int .i64 p.f, .int .i64 p.n, .int .i64 p.m, .string p.s] 41)).block _ (Array.getElem?_eq_some_iff.1 H33.out).1).trans H33.out)
                  refine wpAnyH_ready (rs := [4]) (by kernel_rfl) (by simp) ?_
                  refine (AllReadyH.cons rfl (fun K hK => ?_) AllReadyH.nil)
                  refine step_append_lies _ (by rfl) (.tmp 75) (.tmp 78) 52 (by rfl) w.heap.size 48 i0 (.slice none 0 0) 1 24 Try.underlying52 hi hz0 hz1 hz2 rfl (by decide) u11 (states x).length vs (by rfl) KM4.out.mem.st ⟨_, 0, none⟩ 1 1 [.slice (some ⟨gx, 0, none⟩) 16 cx] (by rfl) (by rfl) (World.news_of_block H34.out) (by intro u hu; rw [List.mem_singleton.1 hu]; exact own_one HR4.out.1) (by decide) (by have := HSTL.out (); unfold maxLen; omega) (by have := HSTL.out (); omega) KM4.out.below.size _ rfl ?_
                  intro g cap4 W5 hown hg hat hlt
                  have KM5 := Lib.hid (KM4.out.push HR4.out hown hg hat)
                  have H75 := Lib.hid (grown_kind KM4.out.mem.st hg H74.out (by decide))
                  clear hown hg hat hlt
                  refine hK.out _ _ ?_ (fun hHeld => ?_)
                  · exact KM5.out.at14
                  clear hK K
                  try simp only [Act.put, List.setIfInBounds_toArray, List.set_cons_zero, List.set_cons_succ]
                  refine wpAnyH_ready (rs := [8]) (by kernel_rfl) (by simp) ?_
                  refine (AllReadyH.cons rfl (fun K hK => ?_) AllReadyH.nil)
                  refine step_append_lies _ (by rfl) (.tmp 80) (.tmp 82) 35 (by rfl) w.heap.size 41 i1 (.agg #[.int .i64 0, .int .i64 0, .int .i64 0, .int .i64 0, .string ⟨#[]⟩]) 5 48 Try.underlying35 ki kz0 kz1 kz2 rfl (by decide) u12 ops.length (ops.flatMap Opn.cells) (by rfl) KM5.out.mem.op ⟨_, 0, none⟩ 1 1 p.cells (by rfl) (by rfl) (World.news_of_block H75.out) (by simp [Opn.cells, Value.oneCell']) (by decide) (by have := HOL.out; unfold maxLen; omega) (by have := HOL.out; omega) KM5.out.below.size _ rfl ?_
                  intro g cap8 W6 hown hg hat hlt
                  have KE := Lib.hid (KM5.out.more hown hg hat (HX2.out ()).1 (HX2.out ()).2.1 (HX2.out ()).2.2.1 (HX2.out ()).2.2.2)
                  have HLD := Lib.hid (KM5.out.held hg)
                  clear hown hg hat hlt
                  refine hK.out _ _ ?_ (fun hHeld => ?_)
                  · exact HLD.out
                  clear hK K
                  try simp only [Act.put, List.setIfInBounds_toArray, List.set_cons_zero, List.set_cons_succ]
                  refine wpAnyH_take (i := 9) (v := ?v17) rfl (by kernel_rfl) (by kernel_rfl) (by kernel_rfl) (fun _ _ _ h => h) (Or.inl ⟨by rfl, ?hy17⟩) (by assumption) ?rest17
                  case hy17 => (intro w0 hSw; (try dsimp only at hSw); go_simp; try with_reducible rfl)
                  try simp only [Act.put, List.setIfInBounds_toArray, List.set_cons_zero, List.set_cons_succ]
                  refine wpAnyH_take (i := 10) (v := ?v18) rfl (by kernel_rfl) (by kernel_rfl) (by kernel_rfl) (fun _ _ _ h => h) (Or.inl ⟨by rfl, ?hy18⟩) (by assumption) ?rest18
                  case hy18 => (intro w0 hSw; (try dsimp only at hSw); go_simp; try with_reducible rfl)
                  try simp only [Act.put, List.setIfInBounds_toArray, List.set_cons_zero, List.set_cons_succ]
                  refine wpAnyH_done (by kernel_rfl) ?_ _
                  go_wp2
                  go_roundw
                  case rel => exact ⟨k + 1, by omega, by go_num, _, _, _, _, KE.out, HXL.out⟩
                  case measure => simp [intOf]; omega
              · go_simp
                refine hK.out _ _ ?_ (fun hHeld => ?_)
                · exact (KM2.out.on (below_alloc _ _)).at14
                clear hK K
                try simp only [Act.put, List.setIfInBounds_toArray, List.set_cons_zero, List.set_cons_succ]
                have KM3 := Lib.hid (KM2.out.on (below_alloc _ (.cells #[.int .i64 p.kind, .int .i64 p.f, .int .i64 p.n, .int .i64 p.m, .string p.s] 41)))
                have HR3 := Lib.hid (HR2.out.below (below_alloc _ (.cells #[.int .i64 p.kind, .int .i64 p.f, .int .i64 p.n, .int .i64 p.m, .string p.s] 41)))
                have H73 := Lib.hid (alloc_at W2 (.cells #[.int .i64 p.kind, .int .i64 p.f, .int .i64 p.n, .int .i64 p.m, .string p.s] 41))
                refine wpAnyH_ready (rs := [3]) (by kernel_rfl) (by simp) ?_
                refine (AllReadyH.cons rfl (fun K hK => ?_) AllReadyH.nil)
                go_simp
                refine hK.out _ _ ?_ (fun hHeld => ?_)
                · exact (KM3.out.on (below_alloc _ _)).at14
                clear hK K
                try simp only [Act.put, List.setIfInBounds_toArray, List.set_cons_zero, List.set_cons_succ]
                have KM4 := Lib.hid (KM3.out.on (below_alloc _ (.cells #[.slice (some ⟨gx, 0, none⟩) 16 cx] 48)))
                have HR4 := Lib.hid (HR3.out.below (below_alloc _ (.cells #[.slice (some ⟨gx, 0, none⟩) 16 cx] 48)))
                have H34 := Lib.hid (alloc_at2 W2 (.cells #[.int .i64 p.kind, .int .i64 p.f, .int .i64 p.n, .int .i64 p.m, .string p.s] 41) (.cells #[.slice (some ⟨gx, 0, none⟩) 16 cx] 48))
                have H74 := Lib.hid (((below_alloc _ (.cells #[.slice (some ⟨gx, 0, none⟩) 16 cx] 48)).block _ (Array.getElem?_eq_some_iff.1 H73.out).1).trans H73.out)
                refine wpAnyH_ready (rs := [4]) (by kernel_rfl) (by simp) ?_
                refine (AllReadyH.cons rfl (fun K hK => ?_) AllReadyH.nil)
                refine step_append_lies _ (by rfl) (.tmp 75) (.tmp 78) 52 (by rfl) w.heap.size 48 i0 (.slice none 0 0) 1 24 Try.underlying52 hi hz0 hz1 hz2 rfl (by decide) u11 (states x).length vs (by rfl) KM4.out.mem.st ⟨_, 0, none⟩ 1 1 [.slice (some ⟨gx, 0, none⟩) 16 cx] (by rfl) (by rfl) (World.news_of_block H34.out) (by intro u hu; rw [List.mem_singleton.1 hu]; exact own_one HR4.out.1) (by decide) (by have := HSTL.out (); unfold maxLen; omega) (by have := HSTL.out (); omega) KM4.out.below.size _ rfl ?_
                intro g cap4 W5 hown hg hat hlt
                have KM5 := Lib.hid (KM4.out.push HR4.out hown hg hat)
                have H75 := Lib.hid (grown_kind KM4.out.mem.st hg H74.out (by decide))
                clear hown hg hat hlt
                refine hK.out _ _ ?_ (fun hHeld => ?_)
                · exact KM5.out.at14
                clear hK K
                try simp only [Act.put, List.setIfInBounds_toArray, List.set_cons_zero, List.set_cons_succ]
                refine wpAnyH_ready (rs := [8]) (by kernel_rfl) (by simp) ?_
                refine (AllReadyH.cons rfl (fun K hK => ?_) AllReadyH.nil)
                refine step_append_lies _ (by rfl) (.tmp 80) (.tmp 82) 35 (by rfl) w.heap.size 41 i1 (.agg #[.int .i64 0, .int .i64 0, .int .i64 0, .int .i64 0, .string ⟨#[]⟩]) 5 48 Try.underlying35 ki kz0 kz1 kz2 rfl (by decide) u12 ops.length (ops.flatMap Opn.cells) (by rfl) KM5.out.mem.op ⟨_, 0, none⟩ 1 1 p.cells (by rfl) (by rfl) (World.news_of_block H75.out) (by simp [Opn.cells, Value.oneCell']) (by decide) (by have := HOL.out; unfold maxLen; omega) (by have := HOL.out; omega) KM5.out.below.size _ rfl ?_
                intro g cap8 W6 hown hg hat hlt
                have KE := Lib.hid (KM5.out.more hown hg hat (HX2.out ()).1 (HX2.out ()).2.1 (HX2.out ()).2.2.1 (HX2.out ()).2.2.2)
                have HLD := Lib.hid (KM5.out.held hg)
                clear hown hg hat hlt
                refine hK.out _ _ ?_ (fun hHeld => ?_)
                · exact HLD.out
                clear hK K
                try simp only [Act.put, List.setIfInBounds_toArray, List.set_cons_zero, List.set_cons_succ]
                refine wpAnyH_take (i := 9) (v := ?v19) rfl (by kernel_rfl) (by kernel_rfl) (by kernel_rfl) (fun _ _ _ h => h) (Or.inl ⟨by rfl, ?hy19⟩) (by assumption) ?rest19
                case hy19 => (intro w0 hSw; (try dsimp only at hSw); go_simp; try with_reducible rfl)
                try simp only [Act.put, List.setIfInBounds_toArray, List.set_cons_zero, List.set_cons_succ]
                refine wpAnyH_take (i := 10) (v := ?v20) rfl (by kernel_rfl) (by kernel_rfl) (by kernel_rfl) (fun _ _ _ h => h) (Or.inl ⟨by rfl, ?hy20⟩) (by assumption) ?rest20
                case hy20 => (intro w0 hSw; (try dsimp only at hSw); go_simp; try with_reducible rfl)
                try simp only [Act.put, List.setIfInBounds_toArray, List.set_cons_zero, List.set_cons_succ]
                refine wpAnyH_done (by kernel_rfl) ?_ _
                go_wp2
                go_roundw
                case rel => exact ⟨k + 1, by omega, by go_num, _, _, _, _, KE.out, HXL.out⟩
                case measure => simp [intOf]; omega
            · go_simp
              refine hK.out _ _ ?_ (fun hHeld => ?_)
              · exact (KM1.out.on (below_alloc _ _)).at14
              clear hK K
              try simp only [Act.put, List.setIfInBounds_toArray, List.set_cons_zero, List.set_cons_succ]
              have KM2 := Lib.hid (KM1.out.on (below_alloc _ (.cells #[.int .i64 p.kind, .int .i64 p.f, .int .i64 p.n, .int .i64 p.m, .string p.s] 41)))
              have H72 := Lib.hid (alloc_at w3.drew (.cells #[.int .i64 p.kind, .int .i64 p.f, .int .i64 p.n, .int .i64 p.m, .string p.s] 41))
              refine wpAnyH_ready (rs := [2]) (by kernel_rfl) (by simp) ?_
              refine (AllReadyH.cons rfl (fun K hK => ?_) AllReadyH.nil)
              go_simp
              go_at_call 27
              refine (all_at rfl HOFF.out _ _ w.heap.size KM2.out.disk).mono ?_
              rintro e W3 ⟨xv, rfl, hrow, hb2⟩
              obtain ⟨gx, cx, rfl⟩ := row_form hrow
              have HR3 := Lib.hid (KM2.out.row hrow)
              have KM3 := Lib.hid (KM2.out.on hb2)
              have H73 := Lib.hid ((hb2.block _ (Array.getElem?_eq_some_iff.1 H72.out).1).trans H72.out)
              clear hrow hb2
              refine hK.out _ _ ?_ (fun hHeld => ?_)
              · exact KM3.out.at14
              clear hK K
              try simp only [Act.put, List.setIfInBounds_toArray, List.set_cons_zero, List.set_cons_succ]
              refine wpAnyH_ready (rs := [3]) (by kernel_rfl) (by simp) ?_
              refine (AllReadyH.cons rfl (fun K hK => ?_) AllReadyH.nil)
              go_simp
              refine hK.out _ _ ?_ (fun hHeld => ?_)
              · exact (KM3.out.on (below_alloc _ _)).at14
              clear hK K
              try simp only [Act.put, List.setIfInBounds_toArray, List.set_cons_zero, List.set_cons_succ]
              have KM4 := Lib.hid (KM3.out.on (below_alloc _ (.cells #[.slice (some ⟨gx, 0, none⟩) 16 cx] 48)))
              have HR4 := Lib.hid (HR3.out.below (below_alloc _ (.cells #[.slice (some ⟨gx, 0, none⟩) 16 cx] 48)))
              have H34 := Lib.hid (alloc_at W3 (.cells #[.slice (some ⟨gx, 0, none⟩) 16 cx] 48))
              have H74 := Lib.hid (((below_alloc _ (.cells #[.slice (some ⟨gx, 0, none⟩) 16 cx] 48)).block _ (Array.getElem?_eq_some_iff.1 H73.out).1).trans H73.out)
              refine wpAnyH_ready (rs := [4]) (by kernel_rfl) (by simp) ?_
              refine (AllReadyH.cons rfl (fun K hK => ?_) AllReadyH.nil)
              refine step_append_lies _ (by rfl) (.tmp 75) (.tmp 78) 52 (by rfl) w.heap.size 48 i0 (.slice none 0 0) 1 24 Try.underlying52 hi hz0 hz1 hz2 rfl (by decide) u11 (states x).length vs (by rfl) KM4.out.mem.st ⟨_, 0, none⟩ 1 1 [.slice (some ⟨gx, 0, none⟩) 16 cx] (by rfl) (by rfl) (World.news_of_block H34.out) (by intro u hu; rw [List.mem_singleton.1 hu]; exact own_one HR4.out.1) (by decide) (by have := HSTL.out (); unfold maxLen; omega) (by have := HSTL.out (); omega) KM4.out.below.size _ rfl ?_
              intro g cap4 W5 hown hg hat hlt
              have KM5 := Lib.hid (KM4.out.push HR4.out hown hg hat)
              have H75 := Lib.hid (grown_kind KM4.out.mem.st hg H74.out (by decide))
              clear hown hg hat hlt
              refine hK.out _ _ ?_ (fun hHeld => ?_)
              · exact KM5.out.at14
              clear hK K
              try simp only [Act.put, List.setIfInBounds_toArray, List.set_cons_zero, List.set_cons_succ]
              refine wpAnyH_ready (rs := [8]) (by kernel_rfl) (by simp) ?_
              refine (AllReadyH.cons rfl (fun K hK => ?_) AllReadyH.nil)
              refine step_append_lies _ (by rfl) (.tmp 80) (.tmp 82) 35 (by rfl) w.heap.size 41 i1 (.agg #[.int .i64 0, .int .i64 0, .int .i64 0, .int .i64 0, .string ⟨#[]⟩]) 5 48 Try.underlying35 ki kz0 kz1 kz2 rfl (by decide) u12 ops.length (ops.flatMap Opn.cells) (by rfl) KM5.out.mem.op ⟨_, 0, none⟩ 1 1 p.cells (by rfl) (by rfl) (World.news_of_block H75.out) (by simp [Opn.cells, Value.oneCell']) (by decide) (by have := HOL.out; unfold maxLen; omega) (by have := HOL.out; omega) KM5.out.below.size _ rfl ?_
              intro g cap8 W6 hown hg hat hlt
              have KE := Lib.hid (KM5.out.more hown hg hat (HX2.out ()).1 (HX2.out ()).2.1 (HX2.out ()).2.2.1 (HX2.out ()).2.2.2)
              have HLD := Lib.hid (KM5.out.held hg)
              clear hown hg hat hlt
              refine hK.out _ _ ?_ (fun hHeld => ?_)
              · exact HLD.out
              clear hK K
              try simp only [Act.put, List.setIfInBounds_toArray, List.set_cons_zero, List.set_cons_succ]
              refine wpAnyH_take (i := 9) (v := ?v21) rfl (by kernel_rfl) (by kernel_rfl) (by kernel_rfl) (fun _ _ _ h => h) (Or.inl ⟨by rfl, ?hy21⟩) (by assumption) ?rest21
              case hy21 => (intro w0 hSw; (try dsimp only at hSw); go_simp; try with_reducible rfl)
              try simp only [Act.put, List.setIfInBounds_toArray, List.set_cons_zero, List.set_cons_succ]
              refine wpAnyH_take (i := 10) (v := ?v22) rfl (by kernel_rfl) (by kernel_rfl) (by kernel_rfl) (fun _ _ _ h => h) (Or.inl ⟨by rfl, ?hy22⟩) (by assumption) ?rest22
              case hy22 => (intro w0 hSw; (try dsimp only at hSw); go_simp; try with_reducible rfl)
              try simp only [Act.put, List.setIfInBounds_toArray, List.set_cons_zero, List.set_cons_succ]
              refine wpAnyH_done (by kernel_rfl) ?_ _
              go_wp2
              go_roundw
              case rel => exact ⟨k + 1, by omega, by go_num, _, _, _, _, KE.out, HXL.out⟩
              case measure => simp [intOf]; omega

          · have hx2 : x2 = x := by
              rcases htwo with ⟨_, h⟩ | ⟨h, _⟩
              · exact h
              · exact absurd h hE
            subst hx2
            have hE' : (E == 0) = false := by simp [hE]
            have HE := Lib.hid hE
            clear htwo hE
            go_wp2_with (first | (refine wpList_load_mid rfl 41 (.tmp 37) rfl b0 (o0 + k * 5) rfl [.int .i64 p.kind, .int .i64 p.f, .int .i64 p.n, .int .i64 p.m, .string p.s] _ HCK.out Try.underlying41 rfl info41 ?_))
            refine (cut_at (HC.out ()) _ F w.heap.size (HKI.out.disk.below (below_alloc _ (.cells #[.int .i64 p.kind, .int .i64 p.f, .int .i64 p.n, .int .i64 p.m, .string p.s] 41))) HLN.out).mono ?_
            rintro e w3 ⟨rfl, hp⟩
            have KM0 := Lib.hid (HKI.out.called (p := p) hp)
            clear hp
            go_wp2_with fail
            go_roundw
            case rel => exact ⟨k + 1, by omega, by go_num, _, _, _, _, KM0.out.same HKI.out.off HKI.out.left HKI.out.mats, by have := HLE.out; omega⟩
            case measure => simp [intOf]; omega
        by_cases hk2 : p.kind = 2
        · have HK := Lib.hid hk2
          have hkb0 : (p.kind == 0) = false := by simp [hk2]
          have hkb1 : (p.kind == 1) = false := by simp [hk2]
          have hkb2 : (p.kind == 2) = true := by simp [hk2]
          clear hk0 hk1 hk2
          obtain ⟨E, x2, hcall, htwo⟩ := move_two HKI.out.off HKI.out.left (by rw [HK.out]; decide)
          have HC := Lib.hid (fun (_ : Unit) => hcall)
          clear hcall
          by_cases hE : E = 0
          · have hx2 : ∃ c, x2 = { x with loose := x.loose ++ [c] } ∧ Mat p c := by
              rcases htwo with ⟨h, _⟩ | ⟨_, h⟩
              · exact absurd hE h
              · exact h
            obtain ⟨c, hx2, hmat⟩ := hx2
            subst hE
            have HX2 := Lib.hid (fun (_ : Unit) => two_facts HKI.out hx2 hmat)
            have HXL := Lib.hid (two_len hx2 HLE.out)
            have HOFF := Lib.hid (HX2.out ()).1
            clear htwo hx2 hmat
            go_wp2_with (first | (refine wpList_load_mid rfl 41 (.tmp 37) rfl b0 (o0 + k * 5) rfl [.int .i64 p.kind, .int .i64 p.f, .int .i64 p.n, .int .i64 p.m, .string p.s] _ HCK.out Try.underlying41 rfl info41 ?_))
            refine (move_at (HC.out ()) _ F w.heap.size (HKI.out.disk.below (below_alloc _ (.cells #[.int .i64 p.kind, .int .i64 p.f, .int .i64 p.n, .int .i64 p.m, .string p.s] 41))) HLN.out).mono ?_
            rintro e w3 ⟨rfl, hp⟩
            have KM0 := Lib.hid (HKI.out.called (p := p) hp)
            clear hp
            go_wp2_with fail
            refine wp_region_held (S := fun W => W.heap[wr.heap.size]? = some (.cells p.cells.toArray 41 (0, 0))) (by kernel_rfl) ?_
            have KM1 := Lib.hid (KM0.out.on (below_drew _))
            have hHeld := KM1.out.at14
            refine wpAnyH_take (i := 0) (v := ?v23) rfl (by kernel_rfl) (by kernel_rfl) (by kernel_rfl) (fun _ _ _ h => h) (Or.inl ⟨by rfl, ?hy23⟩) (by assumption) ?rest23
            case hy23 => (intro w0 hSw; (try dsimp only at hSw); go_simp; try with_reducible rfl)
            try simp only [Act.put, List.setIfInBounds_toArray, List.set_cons_zero, List.set_cons_succ]
            refine wpAnyH_take (i := 1) (v := ?v24) rfl (by kernel_rfl) (by kernel_rfl) (by kernel_rfl) (fun _ _ _ h => h) (Or.inl ⟨by rfl, ?hy24⟩) (by assumption) ?rest24
            case hy24 => (intro w0 hSw; (try dsimp only at hSw); go_simp; try with_reducible rfl)
            try simp only [Act.put, List.setIfInBounds_toArray, List.set_cons_zero, List.set_cons_succ]
            refine wpAnyH_take (i := 5) (v := ?v25) rfl (by kernel_rfl) (by kernel_rfl) (by kernel_rfl) (fun _ _ _ h => h) (Or.inl ⟨by rfl, ?hy25⟩) (by assumption) ?rest25
            case hy25 => (intro w0 hSw; (try dsimp only at hSw); go_simp; try with_reducible rfl)
            try simp only [Act.put, List.setIfInBounds_toArray, List.set_cons_zero, List.set_cons_succ]
            refine wpAnyH_take (i := 6) (v := .agg #[.int .i64 p.kind, .int .i64 p.f, .int .i64 p.n, .int .i64 p.m, .string p.s]) rfl (by kernel_rfl) (by kernel_rfl) (by kernel_rfl) (fun _ _ _ h => h) (yieldsIf_load_mid (by rfl) 41 (.tmp 14) rfl wr.heap.size 0 (by simp [Act.eval]) [.int .i64 p.kind, .int .i64 p.f, .int .i64 p.n, .int .i64 p.m, .string p.s] _ (fun W hW => range14 hW) Try.underlying41 rfl info41) (by assumption) ?_
            try simp only [Act.put, List.setIfInBounds_toArray, List.set_cons_zero, List.set_cons_succ]
            refine wpAnyH_ready (rs := [2, 7]) (by kernel_rfl) (by simp) ?_
            refine (AllReadyH.cons rfl (fun K hK => ?_) (AllReadyH.cons rfl (fun K hK => ?_) AllReadyH.nil))
            · go_simp
              go_at_call 27
              refine (all_at rfl HOFF.out _ _ w.heap.size KM1.out.disk).mono ?_
              rintro e W2 ⟨xv, rfl, hrow, hb2⟩
              obtain ⟨gx, cx, rfl⟩ := row_form hrow
              have HR2 := Lib.hid (KM1.out.row hrow)
              have KM2 := Lib.hid (KM1.out.on hb2)
              clear hrow hb2
              refine hK.out _ _ ?_ (fun hHeld => ?_)
              · exact KM2.out.at14
              clear hK K
              try simp only [Act.put, List.setIfInBounds_toArray, List.set_cons_zero, List.set_cons_succ]
              refine wpAnyH_ready (rs := [3, 7]) (by kernel_rfl) (by simp) ?_
              refine (AllReadyH.cons rfl (fun K hK => ?_) (AllReadyH.cons rfl (fun K hK => ?_) AllReadyH.nil))
              · go_simp
                refine hK.out _ _ ?_ (fun hHeld => ?_)
                · exact (KM2.out.on (below_alloc _ _)).at14
                clear hK K
                try simp only [Act.put, List.setIfInBounds_toArray, List.set_cons_zero, List.set_cons_succ]
                have KM3 := Lib.hid (KM2.out.on (below_alloc _ (.cells #[.slice (some ⟨gx, 0, none⟩) 16 cx] 48)))
                have HR3 := Lib.hid (HR2.out.below (below_alloc _ (.cells #[.slice (some ⟨gx, 0, none⟩) 16 cx] 48)))
                have H33 := Lib.hid (alloc_at W2 (.cells #[.slice (some ⟨gx, 0, none⟩) 16 cx] 48))
                refine wpAnyH_ready (rs := [4, 7]) (by kernel_rfl) (by simp) ?_
                refine (AllReadyH.cons rfl (fun K hK => ?_) (AllReadyH.cons rfl (fun K hK => ?_) AllReadyH.nil))
                · refine step_append_lies _ (by rfl) (.tmp 75) (.tmp 78) 52 (by rfl) w.heap.size 48 i0 (.slice none 0 0) 1 24 Try.underlying52 hi hz0 hz1 hz2 rfl (by decide) u11 (states x).length vs (by rfl) KM3.out.mem.st ⟨_, 0, none⟩ 1 1 [.slice (some ⟨gx, 0, none⟩) 16 cx] (by rfl) (by rfl) (World.news_of_block H33.out) (by intro u hu; rw [List.mem_singleton.1 hu]; exact own_one HR3.out.1) (by decide) (by have := HSTL.out (); unfold maxLen; omega) (by have := HSTL.out (); omega) KM3.out.below.size _ rfl ?_
                  intro g cap4 W4 hown hg hat hlt
                  have KM4 := Lib.hid (KM3.out.push HR3.out hown hg hat)
                  clear hown hg hat hlt
                  refine hK.out _ _ ?_ (fun hHeld => ?_)
                  · exact KM4.out.at14
                  clear hK K
                  try simp only [Act.put, List.setIfInBounds_toArray, List.set_cons_zero, List.set_cons_succ]
                  refine wpAnyH_ready (rs := [7]) (by kernel_rfl) (by simp) ?_
                  refine (AllReadyH.cons rfl (fun K hK => ?_) AllReadyH.nil)
                  go_simp
                  refine hK.out _ _ ?_ (fun hHeld => ?_)
                  · exact (KM4.out.on (below_alloc _ _)).at14
                  clear hK K
                  try simp only [Act.put, List.setIfInBounds_toArray, List.set_cons_zero, List.set_cons_succ]
                  have KM5 := Lib.hid (KM4.out.on (below_alloc _ (.cells #[.int .i64 p.kind, .int .i64 p.f, .int .i64 p.n, .int .i64 p.m, .string p.s] 41)))
                  have H75 := Lib.hid (alloc_at W4 (.cells #[.int .i64 p.kind, .int .i64 p.f, .int .i64 p.n, .int .i64 p.m, .string p.s] 41))
                  refine wpAnyH_ready (rs := [8]) (by kernel_rfl) (by simp) ?_
                  refine (AllReadyH.cons rfl (fun K hK => ?_) AllReadyH.nil)
                  refine step_append_lies _ (by rfl) (.tmp 80) (.tmp 82) 35 (by rfl) w.heap.size 41 i1 (.agg #[.int .i64 0, .int .i64 0, .int .i64 0, .int .i64 0, .string ⟨#[]⟩]) 5 48 Try.underlying35 ki kz0 kz1 kz2 rfl (by decide) u12 ops.length (ops.flatMap Opn.cells) (by rfl) KM5.out.mem.op ⟨_, 0, none⟩ 1 1 p.cells (by rfl) (by rfl) (World.news_of_block H75.out) (by simp [Opn.cells, Value.oneCell']) (by decide) (by have := HOL.out; unfold maxLen; omega) (by have := HOL.out; omega) KM5.out.below.size _ rfl ?_
                  intro g cap8 W6 hown hg hat hlt
                  have KE := Lib.hid (KM5.out.more hown hg hat (HX2.out ()).1 (HX2.out ()).2.1 (HX2.out ()).2.2.1 (HX2.out ()).2.2.2)
                  have HLD := Lib.hid (KM5.out.held hg)
                  clear hown hg hat hlt
                  refine hK.out _ _ ?_ (fun hHeld => ?_)
                  · exact HLD.out
                  clear hK K
                  try simp only [Act.put, List.setIfInBounds_toArray, List.set_cons_zero, List.set_cons_succ]
                  refine wpAnyH_take (i := 9) (v := ?v26) rfl (by kernel_rfl) (by kernel_rfl) (by kernel_rfl) (fun _ _ _ h => h) (Or.inl ⟨by rfl, ?hy26⟩) (by assumption) ?rest26
                  case hy26 => (intro w0 hSw; (try dsimp only at hSw); go_simp; try with_reducible rfl)
                  try simp only [Act.put, List.setIfInBounds_toArray, List.set_cons_zero, List.set_cons_succ]
                  refine wpAnyH_take (i := 10) (v := ?v27) rfl (by kernel_rfl) (by kernel_rfl) (by kernel_rfl) (fun _ _ _ h => h) (Or.inl ⟨by rfl, ?hy27⟩) (by assumption) ?rest27
                  case hy27 => (intro w0 hSw; (try dsimp only at hSw); go_simp; try with_reducible rfl)
                  try simp only [Act.put, List.setIfInBounds_toArray, List.set_cons_zero, List.set_cons_succ]
                  refine wpAnyH_done (by kernel_rfl) ?_ _
                  go_wp2
                  go_roundw
                  case rel => exact ⟨k + 1, by omega, by go_num, _, _, _, _, KE.out, HXL.out⟩
                  case measure => simp [intOf]; omega
                · go_simp
                  refine hK.out _ _ ?_ (fun hHeld => ?_)
                  · exact (KM3.out.on (below_alloc _ _)).at14
                  clear hK K
                  try simp only [Act.put, List.setIfInBounds_toArray, List.set_cons_zero, List.set_cons_succ]
                  have KM4 := Lib.hid (KM3.out.on (below_alloc _ (.cells #[.int .i64 p.kind, .int .i64 p.f, .int .i64 p.n, .int .i64 p.m, .string p.s] 41)))
                  have HR4 := Lib.hid (HR3.out.below (below_alloc _ (.cells #[.int .i64 p.kind, .int .i64 p.f, .int .i64 p.n, .int .i64 p.m, .string p.s] 41)))
                  have H74 := Lib.hid (alloc_at2 W2 (.cells #[.slice (some ⟨gx, 0, none⟩) 16 cx] 48) (.cells #[.int .i64 p.kind, .int .i64 p.f, .int .i64 p.n, .int .i64 p.m, .string p.s] 41))
                  have H34 := Lib.hid (((below_alloc _ (.cells #[.int .i64 p.kind, .int .i64 p.f, .int .i64 p.n, .int .i64 p.m, .string p.s] 41)).block _ (Array.getElem?_eq_some_iff.1 H33.out).1).trans H33.out)
                  refine wpAnyH_ready (rs := [4]) (by kernel_rfl) (by simp) ?_
                  refine (AllReadyH.cons rfl (fun K hK => ?_) AllReadyH.nil)
                  refine step_append_lies _ (by rfl) (.tmp 75) (.tmp 78) 52 (by rfl) w.heap.size 48 i0 (.slice none 0 0) 1 24 Try.underlying52 hi hz0 hz1 hz2 rfl (by decide) u11 (states x).length vs (by rfl) KM4.out.mem.st ⟨_, 0, none⟩ 1 1 [.slice (some ⟨gx, 0, none⟩) 16 cx] (by rfl) (by rfl) (World.news_of_block H34.out) (by intro u hu; rw [List.mem_singleton.1 hu]; exact own_one HR4.out.1) (by decide) (by have := HSTL.out (); unfold maxLen; omega) (by have := HSTL.out (); omega) KM4.out.below.size _ rfl ?_
                  intro g cap4 W5 hown hg hat hlt
                  have KM5 := Lib.hid (KM4.out.push HR4.out hown hg hat)
                  have H75 := Lib.hid (grown_kind KM4.out.mem.st hg H74.out (by decide))
                  clear hown hg hat hlt
                  refine hK.out _ _ ?_ (fun hHeld => ?_)
                  · exact KM5.out.at14
                  clear hK K
                  try simp only [Act.put, List.setIfInBounds_toArray, List.set_cons_zero, List.set_cons_succ]
                  refine wpAnyH_ready (rs := [8]) (by kernel_rfl) (by simp) ?_
                  refine (AllReadyH.cons rfl (fun K hK => ?_) AllReadyH.nil)
                  refine step_append_lies _ (by rfl) (.tmp 80) (.tmp 82) 35 (by rfl) w.heap.size 41 i1 (.agg #[.int .i64 0, .int .i64 0, .int .i64 0, .int .i64 0, .string ⟨#[]⟩]) 5 48 Try.underlying35 ki kz0 kz1 kz2 rfl (by decide) u12 ops.length (ops.flatMap Opn.cells) (by rfl) KM5.out.mem.op ⟨_, 0, none⟩ 1 1 p.cells (by rfl) (by rfl) (World.news_of_block H75.out) (by simp [Opn.cells, Value.oneCell']) (by decide) (by have := HOL.out; unfold maxLen; omega) (by have := HOL.out; omega) KM5.out.below.size _ rfl ?_
                  intro g cap8 W6 hown hg hat hlt
                  have KE := Lib.hid (KM5.out.more hown hg hat (HX2.out ()).1 (HX2.out ()).2.1 (HX2.out ()).2.2.1 (HX2.out ()).2.2.2)
                  have HLD := Lib.hid (KM5.out.held hg)
                  clear hown hg hat hlt
                  refine hK.out _ _ ?_ (fun hHeld => ?_)
                  · exact HLD.out
                  clear hK K
                  try simp only [Act.put, List.setIfInBounds_toArray, List.set_cons_zero, List.set_cons_succ]
                  refine wpAnyH_take (i := 9) (v := ?v28) rfl (by kernel_rfl) (by kernel_rfl) (by kernel_rfl) (fun _ _ _ h => h) (Or.inl ⟨by rfl, ?hy28⟩) (by assumption) ?rest28
                  case hy28 => (intro w0 hSw; (try dsimp only at hSw); go_simp; try with_reducible rfl)
                  try simp only [Act.put, List.setIfInBounds_toArray, List.set_cons_zero, List.set_cons_succ]
                  refine wpAnyH_take (i := 10) (v := ?v29) rfl (by kernel_rfl) (by kernel_rfl) (by kernel_rfl) (fun _ _ _ h => h) (Or.inl ⟨by rfl, ?hy29⟩) (by assumption) ?rest29
                  case hy29 => (intro w0 hSw; (try dsimp only at hSw); go_simp; try with_reducible rfl)
                  try simp only [Act.put, List.setIfInBounds_toArray, List.set_cons_zero, List.set_cons_succ]
                  refine wpAnyH_done (by kernel_rfl) ?_ _
                  go_wp2
                  go_roundw
                  case rel => exact ⟨k + 1, by omega, by go_num, _, _, _, _, KE.out, HXL.out⟩
                  case measure => simp [intOf]; omega
              · go_simp
                refine hK.out _ _ ?_ (fun hHeld => ?_)
                · exact (KM2.out.on (below_alloc _ _)).at14
                clear hK K
                try simp only [Act.put, List.setIfInBounds_toArray, List.set_cons_zero, List.set_cons_succ]
                have KM3 := Lib.hid (KM2.out.on (below_alloc _ (.cells #[.int .i64 p.kind, .int .i64 p.f, .int .i64 p.n, .int .i64 p.m, .string p.s] 41)))
                have HR3 := Lib.hid (HR2.out.below (below_alloc _ (.cells #[.int .i64 p.kind, .int .i64 p.f, .int .i64 p.n, .int .i64 p.m, .string p.s] 41)))
                have H73 := Lib.hid (alloc_at W2 (.cells #[.int .i64 p.kind, .int .i64 p.f, .int .i64 p.n, .int .i64 p.m, .string p.s] 41))
                refine wpAnyH_ready (rs := [3]) (by kernel_rfl) (by simp) ?_
                refine (AllReadyH.cons rfl (fun K hK => ?_) AllReadyH.nil)
                go_simp
                refine hK.out _ _ ?_ (fun hHeld => ?_)
                · exact (KM3.out.on (below_alloc _ _)).at14
                clear hK K
                try simp only [Act.put, List.setIfInBounds_toArray, List.set_cons_zero, List.set_cons_succ]
                have KM4 := Lib.hid (KM3.out.on (below_alloc _ (.cells #[.slice (some ⟨gx, 0, none⟩) 16 cx] 48)))
                have HR4 := Lib.hid (HR3.out.below (below_alloc _ (.cells #[.slice (some ⟨gx, 0, none⟩) 16 cx] 48)))
                have H34 := Lib.hid (alloc_at2 W2 (.cells #[.int .i64 p.kind, .int .i64 p.f, .int .i64 p.n, .int .i64 p.m, .string p.s] 41) (.cells #[.slice (some ⟨gx, 0, none⟩) 16 cx] 48))
                have H74 := Lib.hid (((below_alloc _ (.cells #[.slice (some ⟨gx, 0, none⟩) 16 cx] 48)).block _ (Array.getElem?_eq_some_iff.1 H73.out).1).trans H73.out)
                refine wpAnyH_ready (rs := [4]) (by kernel_rfl) (by simp) ?_
                refine (AllReadyH.cons rfl (fun K hK => ?_) AllReadyH.nil)
                refine step_append_lies _ (by rfl) (.tmp 75) (.tmp 78) 52 (by rfl) w.heap.size 48 i0 (.slice none 0 0) 1 24 Try.underlying52 hi hz0 hz1 hz2 rfl (by decide) u11 (states x).length vs (by rfl) KM4.out.mem.st ⟨_, 0, none⟩ 1 1 [.slice (some ⟨gx, 0, none⟩) 16 cx] (by rfl) (by rfl) (World.news_of_block H34.out) (by intro u hu; rw [List.mem_singleton.1 hu]; exact own_one HR4.out.1) (by decide) (by have := HSTL.out (); unfold maxLen; omega) (by have := HSTL.out (); omega) KM4.out.below.size _ rfl ?_
                intro g cap4 W5 hown hg hat hlt
                have KM5 := Lib.hid (KM4.out.push HR4.out hown hg hat)
                have H75 := Lib.hid (grown_kind KM4.out.mem.st hg H74.out (by decide))
                clear hown hg hat hlt
                refine hK.out _ _ ?_ (fun hHeld => ?_)
                · exact KM5.out.at14
                clear hK K
                try simp only [Act.put, List.setIfInBounds_toArray, List.set_cons_zero, List.set_cons_succ]
                refine wpAnyH_ready (rs := [8]) (by kernel_rfl) (by simp) ?_
                refine (AllReadyH.cons rfl (fun K hK => ?_) AllReadyH.nil)
                refine step_append_lies _ (by rfl) (.tmp 80) (.tmp 82) 35 (by rfl) w.heap.size 41 i1 (.agg #[.int .i64 0, .int .i64 0, .int .i64 0, .int .i64 0, .string ⟨#[]⟩]) 5 48 Try.underlying35 ki kz0 kz1 kz2 rfl (by decide) u12 ops.length (ops.flatMap Opn.cells) (by rfl) KM5.out.mem.op ⟨_, 0, none⟩ 1 1 p.cells (by rfl) (by rfl) (World.news_of_block H75.out) (by simp [Opn.cells, Value.oneCell']) (by decide) (by have := HOL.out; unfold maxLen; omega) (by have := HOL.out; omega) KM5.out.below.size _ rfl ?_
                intro g cap8 W6 hown hg hat hlt
                have KE := Lib.hid (KM5.out.more hown hg hat (HX2.out ()).1 (HX2.out ()).2.1 (HX2.out ()).2.2.1 (HX2.out ()).2.2.2)
                have HLD := Lib.hid (KM5.out.held hg)
                clear hown hg hat hlt
                refine hK.out _ _ ?_ (fun hHeld => ?_)
                · exact HLD.out
                clear hK K
                try simp only [Act.put, List.setIfInBounds_toArray, List.set_cons_zero, List.set_cons_succ]
                refine wpAnyH_take (i := 9) (v := ?v30) rfl (by kernel_rfl) (by kernel_rfl) (by kernel_rfl) (fun _ _ _ h => h) (Or.inl ⟨by rfl, ?hy30⟩) (by assumption) ?rest30
                case hy30 => (intro w0 hSw; (try dsimp only at hSw); go_simp; try with_reducible rfl)
                try simp only [Act.put, List.setIfInBounds_toArray, List.set_cons_zero, List.set_cons_succ]
                refine wpAnyH_take (i := 10) (v := ?v31) rfl (by kernel_rfl) (by kernel_rfl) (by kernel_rfl) (fun _ _ _ h => h) (Or.inl ⟨by rfl, ?hy31⟩) (by assumption) ?rest31
                case hy31 => (intro w0 hSw; (try dsimp only at hSw); go_simp; try with_reducible rfl)
                try simp only [Act.put, List.setIfInBounds_toArray, List.set_cons_zero, List.set_cons_succ]
                refine wpAnyH_done (by kernel_rfl) ?_ _
                go_wp2
                go_roundw
                case rel => exact ⟨k + 1, by omega, by go_num, _, _, _, _, KE.out, HXL.out⟩
                case measure => simp [intOf]; omega
            · go_simp
              refine hK.out _ _ ?_ (fun hHeld => ?_)
              · exact (KM1.out.on (below_alloc _ _)).at14
              clear hK K
              try simp only [Act.put, List.setIfInBounds_toArray, List.set_cons_zero, List.set_cons_succ]
              have KM2 := Lib.hid (KM1.out.on (below_alloc _ (.cells #[.int .i64 p.kind, .int .i64 p.f, .int .i64 p.n, .int .i64 p.m, .string p.s] 41)))
              have H72 := Lib.hid (alloc_at w3.drew (.cells #[.int .i64 p.kind, .int .i64 p.f, .int .i64 p.n, .int .i64 p.m, .string p.s] 41))
              refine wpAnyH_ready (rs := [2]) (by kernel_rfl) (by simp) ?_
              refine (AllReadyH.cons rfl (fun K hK => ?_) AllReadyH.nil)
              go_simp
              go_at_call 27
              refine (all_at rfl HOFF.out _ _ w.heap.size KM2.out.disk).mono ?_
              rintro e W3 ⟨xv, rfl, hrow, hb2⟩
              obtain ⟨gx, cx, rfl⟩ := row_form hrow
              have HR3 := Lib.hid (KM2.out.row hrow)
              have KM3 := Lib.hid (KM2.out.on hb2)
              have H73 := Lib.hid ((hb2.block _ (Array.getElem?_eq_some_iff.1 H72.out).1).trans H72.out)
              clear hrow hb2
              refine hK.out _ _ ?_ (fun hHeld => ?_)
              · exact KM3.out.at14
              clear hK K
              try simp only [Act.put, List.setIfInBounds_toArray, List.set_cons_zero, List.set_cons_succ]
              refine wpAnyH_ready (rs := [3]) (by kernel_rfl) (by simp) ?_
              refine (AllReadyH.cons rfl (fun K hK => ?_) AllReadyH.nil)
              go_simp
              refine hK.out _ _ ?_ (fun hHeld => ?_)
              · exact (KM3.out.on (below_alloc _ _)).at14
              clear hK K
              try simp only [Act.put, List.setIfInBounds_toArray, List.set_cons_zero, List.set_cons_succ]
              have KM4 := Lib.hid (KM3.out.on (below_alloc _ (.cells #[.slice (some ⟨gx, 0, none⟩) 16 cx] 48)))
              have HR4 := Lib.hid (HR3.out.below (below_alloc _ (.cells #[.slice (some ⟨gx, 0, none⟩) 16 cx] 48)))
              have H34 := Lib.hid (alloc_at W3 (.cells #[.slice (some ⟨gx, 0, none⟩) 16 cx] 48))
              have H74 := Lib.hid (((below_alloc _ (.cells #[.slice (some ⟨gx, 0, none⟩) 16 cx] 48)).block _ (Array.getElem?_eq_some_iff.1 H73.out).1).trans H73.out)
              refine wpAnyH_ready (rs := [4]) (by kernel_rfl) (by simp) ?_
              refine (AllReadyH.cons rfl (fun K hK => ?_) AllReadyH.nil)
              refine step_append_lies _ (by rfl) (.tmp 75) (.tmp 78) 52 (by rfl) w.heap.size 48 i0 (.slice none 0 0) 1 24 Try.underlying52 hi hz0 hz1 hz2 rfl (by decide) u11 (states x).length vs (by rfl) KM4.out.mem.st ⟨_, 0, none⟩ 1 1 [.slice (some ⟨gx, 0, none⟩) 16 cx] (by rfl) (by rfl) (World.news_of_block H34.out) (by intro u hu; rw [List.mem_singleton.1 hu]; exact own_one HR4.out.1) (by decide) (by have := HSTL.out (); unfold maxLen; omega) (by have := HSTL.out (); omega) KM4.out.below.size _ rfl ?_
              intro g cap4 W5 hown hg hat hlt
              have KM5 := Lib.hid (KM4.out.push HR4.out hown hg hat)
              have H75 := Lib.hid (grown_kind KM4.out.mem.st hg H74.out (by decide))
              clear hown hg hat hlt
              refine hK.out _ _ ?_ (fun hHeld => ?_)
              · exact KM5.out.at14
              clear hK K
              try simp only [Act.put, List.setIfInBounds_toArray, List.set_cons_zero, List.set_cons_succ]
              refine wpAnyH_ready (rs := [8]) (by kernel_rfl) (by simp) ?_
              refine (AllReadyH.cons rfl (fun K hK => ?_) AllReadyH.nil)
              refine step_append_lies _ (by rfl) (.tmp 80) (.tmp 82) 35 (by rfl) w.heap.size 41 i1 (.agg #[.int .i64 0, .int .i64 0, .int .i64 0, .int .i64 0, .string ⟨#[]⟩]) 5 48 Try.underlying35 ki kz0 kz1 kz2 rfl (by decide) u12 ops.length (ops.flatMap Opn.cells) (by rfl) KM5.out.mem.op ⟨_, 0, none⟩ 1 1 p.cells (by rfl) (by rfl) (World.news_of_block H75.out) (by simp [Opn.cells, Value.oneCell']) (by decide) (by have := HOL.out; unfold maxLen; omega) (by have := HOL.out; omega) KM5.out.below.size _ rfl ?_
              intro g cap8 W6 hown hg hat hlt
              have KE := Lib.hid (KM5.out.more hown hg hat (HX2.out ()).1 (HX2.out ()).2.1 (HX2.out ()).2.2.1 (HX2.out ()).2.2.2)
              have HLD := Lib.hid (KM5.out.held hg)
              clear hown hg hat hlt
              refine hK.out _ _ ?_ (fun hHeld => ?_)
              · exact HLD.out
              clear hK K
              try simp only [Act.put, List.setIfInBounds_toArray, List.set_cons_zero, List.set_cons_succ]
              refine wpAnyH_take (i := 9) (v := ?v32) rfl (by kernel_rfl) (by kernel_rfl) (by kernel_rfl) (fun _ _ _ h => h) (Or.inl ⟨by rfl, ?hy32⟩) (by assumption) ?rest32
              case hy32 => (intro w0 hSw; (try dsimp only at hSw); go_simp; try with_reducible rfl)
              try simp only [Act.put, List.setIfInBounds_toArray, List.set_cons_zero, List.set_cons_succ]
              refine wpAnyH_take (i := 10) (v := ?v33) rfl (by kernel_rfl) (by kernel_rfl) (by kernel_rfl) (fun _ _ _ h => h) (Or.inl ⟨by rfl, ?hy33⟩) (by assumption) ?rest33
              case hy33 => (intro w0 hSw; (try dsimp only at hSw); go_simp; try with_reducible rfl)
              try simp only [Act.put, List.setIfInBounds_toArray, List.set_cons_zero, List.set_cons_succ]
              refine wpAnyH_done (by kernel_rfl) ?_ _
              go_wp2
              go_roundw
              case rel => exact ⟨k + 1, by omega, by go_num, _, _, _, _, KE.out, HXL.out⟩
              case measure => simp [intOf]; omega

          · have hx2 : x2 = x := by
              rcases htwo with ⟨_, h⟩ | ⟨h, _⟩
              · exact h
              · exact absurd h hE
            subst hx2
            have hE' : (E == 0) = false := by simp [hE]
            have HE := Lib.hid hE
            clear htwo hE
            go_wp2_with (first | (refine wpList_load_mid rfl 41 (.tmp 37) rfl b0 (o0 + k * 5) rfl [.int .i64 p.kind, .int .i64 p.f, .int .i64 p.n, .int .i64 p.m, .string p.s] _ HCK.out Try.underlying41 rfl info41 ?_))
            refine (move_at (HC.out ()) _ F w.heap.size (HKI.out.disk.below (below_alloc _ (.cells #[.int .i64 p.kind, .int .i64 p.f, .int .i64 p.n, .int .i64 p.m, .string p.s] 41))) HLN.out).mono ?_
            rintro e w3 ⟨rfl, hp⟩
            have KM0 := Lib.hid (HKI.out.called (p := p) hp)
            clear hp
            go_wp2_with fail
            go_roundw
            case rel => exact ⟨k + 1, by omega, by go_num, _, _, _, _, KM0.out.same HKI.out.off HKI.out.left HKI.out.mats, by have := HLE.out; omega⟩
            case measure => simp [intOf]; omega
        by_cases hk3 : p.kind = 3
        · have hkb0 : (p.kind == 0) = false := by simp [hk3]
          have hkb1 : (p.kind == 1) = false := by simp [hk3]
          have hkb2 : (p.kind == 2) = false := by simp [hk3]
          have hkb3 : (p.kind == 3) = true := by simp [hk3]
          clear hk0 hk1 hk2 hk3
          obtain ⟨x2, hx2⟩ : ∃ x2 : D, x2 = { x with sure := x.now, loose := [] } := ⟨_, rfl⟩
          have HC := Lib.hid (fun (_ : Unit) => show x.sync = (0, x2) by rw [hx2]; exact sync_two HKI.out.off HKI.out.left)
          have HSY := Lib.hid (fun (_ : Unit) => synced_now x hx2)
          have HOFF := Lib.hid (show x2.off = false by rw [hx2]; exact HKI.out.off)
          have HLF := Lib.hid (show x2.left = -1 by rw [hx2]; exact HKI.out.left)
          have HLO := Lib.hid (fun (_ : Unit) => show x2.loose = [] by rw [hx2])
          clear hx2
          go_wp2_with (first | (refine wpList_load_mid rfl 41 (.tmp 37) rfl b0 (o0 + k * 5) rfl [.int .i64 p.kind, .int .i64 p.f, .int .i64 p.n, .int .i64 p.m, .string p.s] _ HCK.out Try.underlying41 rfl info41 ?_))
          refine (sync_at (HC.out ()) _ F w.heap.size (HKI.out.disk.below (below_alloc _ (.cells #[.int .i64 p.kind, .int .i64 p.f, .int .i64 p.n, .int .i64 p.m, .string p.s] 41)))).mono ?_
          rintro e w3 ⟨rfl, hp⟩
          have KM0 := Lib.hid (HKI.out.called (p := p) hp)
          clear hp
          go_wp2_with fail
          refine (all_at (f := x.now) (HSY.out ()).1 HOFF.out _ _ w.heap.size KM0.out.disk).mono ?_
          rintro e W2 ⟨xv, rfl, hrow, hb2⟩
          obtain ⟨gx, cx, rfl⟩ := row_form hrow
          have HR2 := Lib.hid (KM0.out.row hrow)
          have KM2 := Lib.hid (KM0.out.on hb2)
          clear hrow hb2
          have KE := Lib.hid (KM2.out.synced HR2.out HOFF.out HLF.out (HSY.out ()).2 (HLO.out ()))
          go_wp2_with fail
          go_roundw
          case rel => exact ⟨k + 1, by omega, by go_num, _, _, _, _, KE.out, by rw [HLO.out ()]; exact Nat.zero_le _⟩
          case measure => simp [intOf]; omega
        · have hkb0 : (p.kind == 0) = false := by simp [hk0]
          have hkb1 : (p.kind == 1) = false := by simp [hk1]
          have hkb2 : (p.kind == 2) = false := by simp [hk2]
          have hkb3 : (p.kind == 3) = false := by simp [hk3]
          clear hk0 hk1 hk2 hk3
          go_wp2_with (first | (refine wpList_load_mid rfl 41 (.tmp 37) rfl b0 (o0 + k * 5) rfl [.int .i64 p.kind, .int .i64 p.f, .int .i64 p.n, .int .i64 p.m, .string p.s] _ HCK.out Try.underlying41 rfl info41 ?_))
          go_roundw
          case rel => exact ⟨k + 1, by omega, by go_num, _, _, _, _, HKI.out.on (below_alloc _ _), by have := HLE.out; omega⟩
          case measure => simp [intOf]; omega
      · have hkl : (l.length : Int) ≤ (k : Int) := by omega
        clear hk hlt hle
        have HM := Lib.hid hm
        have HN2 := Lib.hid hn
        obtain ⟨gu, N, cu, av, cv, rfl, hN, hstN, rfl⟩ := hki.forms
        obtain ⟨q, hq⟩ : ∃ q, win n ops.length = q := ⟨_, rfl⟩
        have hqle : q ≤ ops.length := by rw [← hq]; exact win_le _ _
        have hmm : max (min n (ops.length : Int)) 0 = (q : Int) := by rw [win_maxmin, hq]
        obtain ⟨f0, hf0⟩ : ∃ f0, run x.sure (x.loose.take q) = f0 := ⟨_, rfl⟩
        have hget : (states x)[q]? = some f0 := by rw [← hf0]; exact states_get x (by have := hki.mats.1; omega)
        have HGET := Lib.hid (fun (_ : Unit) => hget)
        have HSN := Lib.hid (fun (_ : Unit) => hstN)
        have HQ := Lib.hid (fun (_ : Unit) => hq)
        have HF0 := Lib.hid (fun (_ : Unit) => hf0)
        have hqN : (q : Int) < (N : Int) := by omega
        have HQL := Lib.hid hqle
        clear hki hget hstN hq hf0 hN hqle HST HSTL H300
        go_wp2_with fail
        refine (crash_at n m HN2.out.1 HN2.out.2 HM.out.1 HM.out.2 _ F w.heap.size HKI.out.disk HLN.out).mono ?_
        rintro e w3 ⟨rfl, hp⟩
        have KC := Lib.hid (HKI.out.crashed hp)
        clear hp
        obtain ⟨gy, cy, hcy, hry⟩ := KC.out.state (HSN.out ()).symm (HGET.out ())
        have HRY := Lib.hid hry
        clear hry
        go_wp2_with fail
        refine (clone_rows HRY.out).mono ?_
        rintro e w4 ⟨y4, rfl, hrow, hb⟩
        obtain ⟨gc, cc, rfl⟩ := row_form hrow
        have KE0 := Lib.hid (KC.out.cloned hb hrow)
        have KC4 := Lib.hid (KC.out.on hb)
        clear hrow hb KC HRY hcy
        by_cases hlt : q < ops.length
        · obtain ⟨p, hp⟩ : ∃ p, ops[q]? = some p := ⟨_, List.getElem?_eq_getElem hlt⟩
          obtain ⟨gv, cv2, hav⟩ := own_form' KC4.out.mem.op (by omega)
          obtain ⟨rfl, rfl⟩ : av = some ⟨gv, 0, none⟩ ∧ cv2 = cv := by injection hav with h1 h2 h3; exact ⟨h1, h3.symm⟩
          have hqi : (q : Int) < (ops.length : Int) := by omega
          obtain ⟨hc0, hc1, hc2, hc3, hc4⟩ := rangeAt5 (call_at KC4.out.mem.op hp)
          by_cases hk0 : p.kind = 0
          · obtain ⟨i, hpf, hi16, hkept⟩ := kept_call (n := n) (b := m) HKI.out.mats (p := p) (by rw [HQ.out ()]; exact hp) hk0
            rw [HQ.out (), HF0.out ()] at hkept
            have hkb : (p.kind == 0) = true := by simp [hk0]
            have hfi := crash_room x HKI.out.disk.ok q i hi16
            rw [HF0.out ()] at hfi
            have hps := mat_size HKI.out.disk.ok HKI.out.mats hp hk0
            rw [hpf] at hc1
            have hcf : w4.cell? ⟨gc, i, none⟩ = some (.string (f0 i)) := row_cell KE0.out.want.1 (by rw [List.getElem?_map, firsts_get f0 hi16]; rfl)
            have hfz := row_frozen KE0.out.want.1 i
            obtain ⟨b, hb⟩ : ∃ b, win m p.s.size = b := ⟨_, rfl⟩
            have hble : b ≤ p.s.size := by rw [← hb]; exact win_le _ _
            have hmb : max (min m (p.s.size : Int)) 0 = (b : Int) := by rw [win_maxmin, hb]
            rw [hb] at hkept
            have hbi : (b : Int) ≤ (p.s.size : Int) := by omega
            have hi0 : (0 : Int) ≤ (i : Int) := by omega
            have hi1 : (i : Int) < 16 := by omega
            have HI16 := Lib.hid hi16
            have HCAT := Lib.hid (show ¬ 9223372036854775807 < (f0 i).size + min b p.s.size by omega)
            obtain ⟨t, ht⟩ : ∃ t, f0 i = t := ⟨_, rfl⟩
            rw [ht] at hcf hfi HCAT hkept
            have HK := Lib.hid (fun (_ : Unit) => hkept)
            have HT := Lib.hid ht
            have HC := Lib.hid (And.intro hc1 (And.intro hc4 hcf))
            clear hp hc2 hc3 hk0 hpf hkept hb hi16 ht hav hlt hble hc1 hc4 hcf
            go_wp2_with fail
            refine wp_region_peel2 (by kernel_rfl) (by simp only [List.dropLast_cons_cons, List.dropLast_singleton]; exact rfl) rfl (by kernel_rfl) ?_
            refine wpAny_of_held (S := fun W => W.cell? ⟨gv, q * 5 + 1, none⟩ = some (.int .i64 i) ∧ W.cell? ⟨gv, q * 5 + 4, none⟩ = some (.string p.s) ∧ W.cell? ⟨gc, i, none⟩ = some (.string t)) _ _ _ _ ?_
            have hHeld := HC.out
            refine wpAnyH_take (i := 0) (v := ?v1001) rfl (by kernel_rfl) (by kernel_rfl) (by kernel_rfl) (fun _ _ _ h => h) (Or.inl ⟨by rfl, ?hy1001⟩) (by assumption) ?rest1001
            case hy1001 => (intro w0 hSw; (try dsimp only at hSw); go_simp; try with_reducible rfl)
            try simp only [Act.put, List.setIfInBounds_toArray, List.set_cons_zero, List.set_cons_succ]
            refine wpAnyH_take (i := 1) (v := ?v1002) rfl (by kernel_rfl) (by kernel_rfl) (by kernel_rfl) (fun _ _ _ h => h) (Or.inl ⟨by rfl, ?hy1002⟩) (by assumption) ?rest1002
            case hy1002 => (intro w0 hSw; (try dsimp only at hSw); go_simp; try with_reducible rfl)
            try simp only [Act.put, List.setIfInBounds_toArray, List.set_cons_zero, List.set_cons_succ]
            refine wpAnyH_take (i := 2) (v := ?v1003) rfl (by kernel_rfl) (by kernel_rfl) (by kernel_rfl) (fun _ _ _ h => h) (Or.inl ⟨by rfl, ?hy1003⟩) (by assumption) ?rest1003
            case hy1003 => (intro w0 hSw; (try dsimp only at hSw); go_simp; try with_reducible rfl)
            try simp only [Act.put, List.setIfInBounds_toArray, List.set_cons_zero, List.set_cons_succ]
            refine wpAnyH_take (i := 3) (v := ?v1004) rfl (by kernel_rfl) (by kernel_rfl) (by kernel_rfl) (fun _ _ _ h => h) (Or.inl ⟨by rfl, ?hy1004⟩) (by assumption) ?rest1004
            case hy1004 => (intro w0 hSw; (try dsimp only at hSw); go_simp; try with_reducible rfl)
            try simp only [Act.put, List.setIfInBounds_toArray, List.set_cons_zero, List.set_cons_succ]
            refine wpAnyH_take (i := 4) (v := ?v1005) rfl (by kernel_rfl) (by kernel_rfl) (by kernel_rfl) (fun _ _ _ h => h) (Or.inl ⟨by rfl, ?hy1005⟩) (by assumption) ?rest1005
            case hy1005 => (intro w0 hSw; (try dsimp only at hSw); go_simp; try with_reducible rfl)
            try simp only [Act.put, List.setIfInBounds_toArray, List.set_cons_zero, List.set_cons_succ]
            refine wpAnyH_take (i := 5) (v := ?v1006) rfl (by kernel_rfl) (by kernel_rfl) (by kernel_rfl) (fun _ _ _ h => h) (Or.inl ⟨by rfl, ?hy1006⟩) (by assumption) ?rest1006
            case hy1006 => (intro w0 hSw; (try dsimp only at hSw); go_simp; try with_reducible rfl)
            try simp only [Act.put, List.setIfInBounds_toArray, List.set_cons_zero, List.set_cons_succ]
            refine wpAnyH_take (i := 6) (v := ?v1007) rfl (by kernel_rfl) (by kernel_rfl) (by kernel_rfl) (fun _ _ _ h => h) (Or.inl ⟨by rfl, ?hy1007⟩) (by assumption) ?rest1007
            case hy1007 => (intro w0 hSw; (try dsimp only at hSw); go_simp; try with_reducible rfl)
            try simp only [Act.put, List.setIfInBounds_toArray, List.set_cons_zero, List.set_cons_succ]
            refine wpAnyH_take (i := 7) (v := ?v1008) rfl (by kernel_rfl) (by kernel_rfl) (by kernel_rfl) (fun _ _ _ h => h) (Or.inl ⟨by rfl, ?hy1008⟩) (by assumption) ?rest1008
            case hy1008 => (intro w0 hSw; (try dsimp only at hSw); go_simp; try with_reducible rfl)
            try simp only [Act.put, List.setIfInBounds_toArray, List.set_cons_zero, List.set_cons_succ]
            refine wpAnyH_take (i := 8) (v := ?v1009) rfl (by kernel_rfl) (by kernel_rfl) (by kernel_rfl) (fun _ _ _ h => h) (Or.inl ⟨by rfl, ?hy1009⟩) (by assumption) ?rest1009
            case hy1009 => (intro w0 hSw; (try dsimp only at hSw); go_simp; try with_reducible rfl)
            try simp only [Act.put, List.setIfInBounds_toArray, List.set_cons_zero, List.set_cons_succ]
            refine wpAnyH_take (i := 9) (v := ?v1010) rfl (by kernel_rfl) (by kernel_rfl) (by kernel_rfl) (fun _ _ _ h => h) (Or.inl ⟨by rfl, ?hy1010⟩) (by assumption) ?rest1010
            case hy1010 => (intro w0 hSw; (try dsimp only at hSw); go_simp; try with_reducible rfl)
            try simp only [Act.put, List.setIfInBounds_toArray, List.set_cons_zero, List.set_cons_succ]
            refine wpAnyH_take (i := 10) (v := ?v1011) rfl (by kernel_rfl) (by kernel_rfl) (by kernel_rfl) (fun _ _ _ h => h) (Or.inl ⟨by rfl, ?hy1011⟩) (by assumption) ?rest1011
            case hy1011 => (intro w0 hSw; (try dsimp only at hSw); go_simp; try with_reducible rfl)
            try simp only [Act.put, List.setIfInBounds_toArray, List.set_cons_zero, List.set_cons_succ]
            refine wpAnyH_take (i := 11) (v := ?v1012) rfl (by kernel_rfl) (by kernel_rfl) (by kernel_rfl) (fun _ _ _ h => h) (Or.inl ⟨by rfl, ?hy1012⟩) (by assumption) ?rest1012
            case hy1012 => (intro w0 hSw; (try dsimp only at hSw); go_simp; try with_reducible rfl)
            try simp only [Act.put, List.setIfInBounds_toArray, List.set_cons_zero, List.set_cons_succ]
            refine wpAnyH_take (i := 12) (v := ?v1013) rfl (by kernel_rfl) (by kernel_rfl) (by kernel_rfl) (fun _ _ _ h => h) (Or.inl ⟨by rfl, ?hy1013⟩) (by assumption) ?rest1013
            case hy1013 => (intro w0 hSw; (try dsimp only at hSw); go_simp; try with_reducible rfl)
            try simp only [Act.put, List.setIfInBounds_toArray, List.set_cons_zero, List.set_cons_succ]
            refine wpAnyH_take (i := 13) (v := ?v1014) rfl (by kernel_rfl) (by kernel_rfl) (by kernel_rfl) (fun _ _ _ h => h) (Or.inl ⟨by rfl, ?hy1014⟩) (by assumption) ?rest1014
            case hy1014 => (intro w0 hSw; (try dsimp only at hSw); go_simp; try with_reducible rfl)
            try simp only [Act.put, List.setIfInBounds_toArray, List.set_cons_zero, List.set_cons_succ]
            refine wpAnyH_take (i := 14) (v := ?v1015) rfl (by kernel_rfl) (by kernel_rfl) (by kernel_rfl) (fun _ _ _ h => h) (Or.inl ⟨by rfl, ?hy1015⟩) (by assumption) ?rest1015
            case hy1015 => (intro w0 hSw; (try dsimp only at hSw); go_simp; try with_reducible rfl)
            try simp only [Act.put, List.setIfInBounds_toArray, List.set_cons_zero, List.set_cons_succ]
            refine wpAnyH_take (i := 15) (v := ?v1016) rfl (by kernel_rfl) (by kernel_rfl) (by kernel_rfl) (fun _ _ _ h => h) (Or.inl ⟨by rfl, ?hy1016⟩) (by assumption) ?rest1016
            case hy1016 => (intro w0 hSw; (try dsimp only at hSw); go_simp; try with_reducible rfl)
            try simp only [Act.put, List.setIfInBounds_toArray, List.set_cons_zero, List.set_cons_succ]
            refine wpAnyH_take (i := 16) (v := ?v1017) rfl (by kernel_rfl) (by kernel_rfl) (by kernel_rfl) (fun _ _ _ h => h) (Or.inl ⟨by rfl, ?hy1017⟩) (by assumption) ?rest1017
            case hy1017 => (intro w0 hSw; (try dsimp only at hSw); go_simp; try with_reducible rfl)
            try simp only [Act.put, List.setIfInBounds_toArray, List.set_cons_zero, List.set_cons_succ]
            refine wpAnyH_take (i := 17) (v := ?v1018) rfl (by kernel_rfl) (by kernel_rfl) (by kernel_rfl) (fun _ _ _ h => h) (Or.inl ⟨by rfl, ?hy1018⟩) (by assumption) ?rest1018
            case hy1018 => (intro w0 hSw; (try dsimp only at hSw); go_simp; try with_reducible rfl)
            try simp only [Act.put, List.setIfInBounds_toArray, List.set_cons_zero, List.set_cons_succ]
            refine wpAnyH_take (i := 18) (v := ?v1019) rfl (by kernel_rfl) (by kernel_rfl) (by kernel_rfl) (fun _ _ _ h => h) (Or.inl ⟨by rfl, ?hy1019⟩) (by assumption) ?rest1019
            case hy1019 => (intro w0 hSw; (try dsimp only at hSw); go_simp; try with_reducible rfl)
            try simp only [Act.put, List.setIfInBounds_toArray, List.set_cons_zero, List.set_cons_succ]
            refine wpAnyH_take (i := 19) (v := ?v1020) rfl (by kernel_rfl) (by kernel_rfl) (by kernel_rfl) (fun _ _ _ h => h) (Or.inl ⟨by rfl, ?hy1020⟩) (by assumption) ?rest1020
            case hy1020 => (intro w0 hSw; (try dsimp only at hSw); go_simp; try with_reducible rfl)
            try simp only [Act.put, List.setIfInBounds_toArray, List.set_cons_zero, List.set_cons_succ]
            refine wpAnyH_take (i := 20) (v := ?v1021) rfl (by kernel_rfl) (by kernel_rfl) (by kernel_rfl) (fun _ _ _ h => h) (Or.inl ⟨by rfl, ?hy1021⟩) (by assumption) ?rest1021
            case hy1021 => (intro w0 hSw; (try dsimp only at hSw); go_simp; try with_reducible rfl)
            try simp only [Act.put, List.setIfInBounds_toArray, List.set_cons_zero, List.set_cons_succ]
            refine wpAnyH_take (i := 21) (v := ?v1022) rfl (by kernel_rfl) (by kernel_rfl) (by kernel_rfl) (fun _ _ _ h => h) (Or.inl ⟨by rfl, ?hy1022⟩) (by assumption) ?rest1022
            case hy1022 => (intro w0 hSw; (try dsimp only at hSw); go_simp; try with_reducible rfl)
            try simp only [Act.put, List.setIfInBounds_toArray, List.set_cons_zero, List.set_cons_succ]
            refine wpAnyH_take (i := 22) (v := ?v1023) rfl (by kernel_rfl) (by kernel_rfl) (by kernel_rfl) (fun _ _ _ h => h) (Or.inl ⟨by rfl, ?hy1023⟩) (by assumption) ?rest1023
            case hy1023 => (intro w0 hSw; (try dsimp only at hSw); go_simp; try with_reducible rfl)
            try simp only [Act.put, List.setIfInBounds_toArray, List.set_cons_zero, List.set_cons_succ]
            refine wpAnyH_take (i := 23) (v := ?v1024) rfl (by kernel_rfl) (by kernel_rfl) (by kernel_rfl) (fun _ _ _ h => h) (Or.inl ⟨by rfl, ?hy1024⟩) (by assumption) ?rest1024
            case hy1024 => (intro w0 hSw; (try dsimp only at hSw); go_simp; rw [if_neg HCAT.out]; try with_reducible rfl)
            try simp only [Act.put, List.setIfInBounds_toArray, List.set_cons_zero, List.set_cons_succ]
            refine wpAnyH_take (i := 24) (v := ?v1025) rfl (by kernel_rfl) (by kernel_rfl) (by kernel_rfl) (fun _ _ _ h => h) (Or.inl ⟨by rfl, ?hy1025⟩) (by assumption) ?rest1025
            case hy1025 => (intro w0 hSw; (try dsimp only at hSw); go_simp; try with_reducible rfl)
            try simp only [Act.put, List.setIfInBounds_toArray, List.set_cons_zero, List.set_cons_succ]
            refine wpAnyH_done (by kernel_rfl) ?_ _
            change wpList _ _ _ _ _ _
            have KE := Lib.hid ((KE0.out.stored HI16.out (t ++ p.s.extract 0 b)).on (below_drew _))
            rw [← HK.out ()] at KE
            go_wp2_with fail
            refine (all_at (f := x.kept n m) (crash_now x n m) rfl _ _ w.heap.size KE.out.disk).mono ?_
            rintro e w5 ⟨v5, rfl, hrow, hb⟩
            obtain ⟨g5, c5, rfl⟩ := row_form hrow
            have HR5 := Lib.hid hrow
            have KE5 := Lib.hid (KE.out.on hb)
            clear hrow hb KE
            go_wp2_with fail
            refine (equal_rows HR5.out KE5.out.want.1).mono ?_
            rintro e w6 ⟨rfl, hb⟩
            have KE6 := Lib.hid (KE5.out.on hb)
            clear hb KE5 HR5
            go_wp2_with fail
            refine (crash_loose KE6.out.disk).mono ?_
            rintro e w7 ⟨rfl, rfl⟩
            go_wp2_with fail
            refine (crash_on KE6.out.disk).mono ?_
            rintro e w8 ⟨rfl, rfl⟩
            go_wp2_with fail
            refine (crash_at m n HM.out.1 HM.out.2 HN2.out.1 HN2.out.2 _ _ w.heap.size KE6.out.disk (Nat.zero_le _)).mono ?_
            rintro e w9 ⟨rfl, hp⟩
            have KE9 := Lib.hid (KE6.out.crashed hp)
            clear hp KE6
            go_wp2_with fail
            refine (all_at (f := x.kept n m) (crash_twice x n m m n) rfl _ _ w.heap.size KE9.out.disk).mono ?_
            rintro e w10 ⟨v10, rfl, hrow, hb⟩
            obtain ⟨g10, c10, rfl⟩ := row_form hrow
            have HR10 := Lib.hid hrow
            have KE10 := Lib.hid (KE9.out.on hb)
            clear hrow hb KE9
            go_wp2_with fail
            refine (equal_rows HR10.out KE10.out.want.1).mono ?_
            rintro e w11 ⟨rfl, hb⟩
            have KE11 := Lib.hid (KE10.out.on hb)
            clear hb KE10 HR10
            go_wp2_with fail
            refine (works_any _).mono ?_
            rintro e w12 ⟨rfl, hb⟩
            have HB12 := Lib.hid (KE11.out.below.trans (hb.mono KE11.out.below.size))
            clear hb
            go_wp2_with fail
            go_ret
            exact ⟨rfl, HB12.out⟩
          · have hkept := kept_other (n := n) (b := m) HKI.out.mats (fun p' hp' => by rw [HQ.out (), hp] at hp'; injection hp' with e; rw [← e]; exact hk0)
            rw [HQ.out (), HF0.out ()] at hkept
            have hkb : (p.kind == 0) = false := by simp [hk0]
            rw [← hkept] at KE0
            have KE := Lib.hid KE0.out
            clear hp hc1 hc2 hc3 hc4 hk0 hkept KE0 hav hlt
            go_wp2_with fail
            refine (all_at (f := x.kept n m) (crash_now x n m) rfl _ _ w.heap.size KE.out.disk).mono ?_
            rintro e w5 ⟨v5, rfl, hrow, hb⟩
            obtain ⟨g5, c5, rfl⟩ := row_form hrow
            have HR5 := Lib.hid hrow
            have KE5 := Lib.hid (KE.out.on hb)
            clear hrow hb KE
            go_wp2_with fail
            refine (equal_rows HR5.out KE5.out.want.1).mono ?_
            rintro e w6 ⟨rfl, hb⟩
            have KE6 := Lib.hid (KE5.out.on hb)
            clear hb KE5 HR5
            go_wp2_with fail
            refine (crash_loose KE6.out.disk).mono ?_
            rintro e w7 ⟨rfl, rfl⟩
            go_wp2_with fail
            refine (crash_on KE6.out.disk).mono ?_
            rintro e w8 ⟨rfl, rfl⟩
            go_wp2_with fail
            refine (crash_at m n HM.out.1 HM.out.2 HN2.out.1 HN2.out.2 _ _ w.heap.size KE6.out.disk (Nat.zero_le _)).mono ?_
            rintro e w9 ⟨rfl, hp⟩
            have KE9 := Lib.hid (KE6.out.crashed hp)
            clear hp KE6
            go_wp2_with fail
            refine (all_at (f := x.kept n m) (crash_twice x n m m n) rfl _ _ w.heap.size KE9.out.disk).mono ?_
            rintro e w10 ⟨v10, rfl, hrow, hb⟩
            obtain ⟨g10, c10, rfl⟩ := row_form hrow
            have HR10 := Lib.hid hrow
            have KE10 := Lib.hid (KE9.out.on hb)
            clear hrow hb KE9
            go_wp2_with fail
            refine (equal_rows HR10.out KE10.out.want.1).mono ?_
            rintro e w11 ⟨rfl, hb⟩
            have KE11 := Lib.hid (KE10.out.on hb)
            clear hb KE10 HR10
            go_wp2_with fail
            refine (works_any _).mono ?_
            rintro e w12 ⟨rfl, hb⟩
            have HB12 := Lib.hid (KE11.out.below.trans (hb.mono KE11.out.below.size))
            clear hb
            go_wp2_with fail
            go_ret
            exact ⟨rfl, HB12.out⟩
        · have hkept := kept_other (n := n) (b := m) HKI.out.mats (fun p' hp' => by
            rw [HQ.out ()] at hp'
            have := (List.getElem?_eq_some_iff.1 hp').1
            omega)
          rw [HQ.out (), HF0.out ()] at hkept
          have hqi : (ops.length : Int) ≤ (q : Int) := by omega
          rw [← hkept] at KE0
          have KE := Lib.hid KE0.out
          clear hkept KE0 hlt
          go_wp2_with fail
          refine (all_at (f := x.kept n m) (crash_now x n m) rfl _ _ w.heap.size KE.out.disk).mono ?_
          rintro e w5 ⟨v5, rfl, hrow, hb⟩
          obtain ⟨g5, c5, rfl⟩ := row_form hrow
          have HR5 := Lib.hid hrow
          have KE5 := Lib.hid (KE.out.on hb)
          clear hrow hb KE
          go_wp2_with fail
          refine (equal_rows HR5.out KE5.out.want.1).mono ?_
          rintro e w6 ⟨rfl, hb⟩
          have KE6 := Lib.hid (KE5.out.on hb)
          clear hb KE5 HR5
          go_wp2_with fail
          refine (crash_loose KE6.out.disk).mono ?_
          rintro e w7 ⟨rfl, rfl⟩
          go_wp2_with fail
          refine (crash_on KE6.out.disk).mono ?_
          rintro e w8 ⟨rfl, rfl⟩
          go_wp2_with fail
          refine (crash_at m n HM.out.1 HM.out.2 HN2.out.1 HN2.out.2 _ _ w.heap.size KE6.out.disk (Nat.zero_le _)).mono ?_
          rintro e w9 ⟨rfl, hp⟩
          have KE9 := Lib.hid (KE6.out.crashed hp)
          clear hp KE6
          go_wp2_with fail
          refine (all_at (f := x.kept n m) (crash_twice x n m m n) rfl _ _ w.heap.size KE9.out.disk).mono ?_
          rintro e w10 ⟨v10, rfl, hrow, hb⟩
          obtain ⟨g10, c10, rfl⟩ := row_form hrow
          have HR10 := Lib.hid hrow
          have KE10 := Lib.hid (KE9.out.on hb)
          clear hrow hb KE9
          go_wp2_with fail
          refine (equal_rows HR10.out KE10.out.want.1).mono ?_
          rintro e w11 ⟨rfl, hb⟩
          have KE11 := Lib.hid (KE10.out.on hb)
          clear hb KE10 HR10
          go_wp2_with fail
          refine (works_any _).mono ?_
          rintro e w12 ⟨rfl, hb⟩
          have HB12 := Lib.hid (KE11.out.below.trans (hb.mono KE11.out.below.size))
          clear hb
          go_wp2_with fail
          go_ret
          exact ⟨rfl, HB12.out⟩
end Go.Proofs.Ytdajpaigahhhcaa.dsk

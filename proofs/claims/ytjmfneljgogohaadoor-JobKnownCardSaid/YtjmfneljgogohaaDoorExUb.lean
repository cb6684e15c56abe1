/- What Same answers: walked. -/
import Derived.Test.YtjmfneljgogohaaDoorExUa
namespace Go.Proofs.YtjmfneljgogohaaDoor.exp
set_option linter.unusedSimpArgs false
set_option linter.unusedVariables false
open Go.RowKit nam
open Go.ChangeMaps (setBlock heap_setBlock_same heap_setBlock_other)

/-- What is known at each round's head. -/
structure Sm (W : World) (mb : Nat) (x y : Ex) (wr : World) (v : Value) (l : List Pq) (m : Met) (S : Nat) : Prop where
  row : wr.ownsRow W.heap.size 73 2 v l.length (pqs l)
  map : PM kB vU (GB W) wr mb m
  out : Out2 W x y l m S
  below : Below W.heap.size W wr
structure Si (W : World) (mb : Nat) (x y : Ex) (p : Pq) (i : Nat) (wr : World) (v : Value) (l : List Pq) (m : Met) (S : Nat) : Prop where
  row : wr.ownsRow W.heap.size 73 2 v l.length (pqs l)
  map : PM kB vU (GB W) wr mb m
  inn : In2 W x y p i l m S
  below : Below W.heap.size W wr
theorem tr_below {W w : World} (h : Below W.heap.size W w) : Tr W w := fun b c hb => h.block b (Array.getElem?_eq_some_iff.1 hb).1
theorem at_gb {W : World} {p : Pq} (h : p.in W) : GB W p.key := by
  obtain ⟨⟨c, v, _, h1, _⟩, c', v', _, h2, _⟩ := h
  exact ⟨⟨c, h1⟩, ⟨c', h2⟩⟩
/-- The last pair of a row. -/
theorem Sm.last {W : World} {mb : Nat} {x y : Ex} {wr : World} {v : Value} {l : List Pq} {p : Pq} {m : Met} {S : Nat} (h : Sm W mb x y wr v (l ++ [p]) m S) :
    ∃ g cap, v = .slice (some ⟨g, 0, none⟩) (l.length + 1) cap ∧ wr.cell? ⟨g, l.length * 2, none⟩ = some (.pointer (some ⟨p.a, p.b, none⟩)) ∧ wr.cell? ⟨g, l.length * 2 + 1, none⟩ = some (.pointer (some ⟨p.c, p.d, none⟩)) ∧ l.length + 1 ≤ cap ∧
      Si W mb x y p 0 wr (.slice (some ⟨g, 0, none⟩) l.length cap) l m S := by
  have hr := h.row
  rw [List.length_append, List.length_singleton] at hr
  rcases id hr with ⟨h1, ⟨_, h2⟩ | ⟨g, cap, cur, rfl, h3, h4, h5, h6, h7, h8⟩⟩
  · omega
  · refine ⟨g, cap, rfl, ?_, ?_, h5, ⟨?_, h.map, h.out.pop, h.below⟩⟩
    · rw [World.ownsRow.cellAt hr (l.length * 2) (by omega), pqs_snoc, List.getElem?_append_right (by rw [pqs_len]; omega), pqs_len]
      simp [Pq.cells]
    · rw [World.ownsRow.cellAt hr (l.length * 2 + 1) (by omega), pqs_snoc, List.getElem?_append_right (by rw [pqs_len]; omega), pqs_len]
      simp [Pq.cells]
    · have := own_cut hr (m := l.length) (by omega)
      rw [pqs_snoc, List.take_append_of_le_length (by rw [pqs_len]; omega), List.take_of_length_le (by rw [pqs_len]; omega)] at this
      exact this

theorem belowN {B : Nat} {a w : World} (h : Below B a w) (n : Nat) : Below B a (w.drewN n) := ⟨h.os, h.tape, h.output, h.size, h.block⟩
theorem infoPair : (Tryd.prog.info? 73).map (fun i => (i.zero, i.size, i.bytes)) = some (some (.agg #[.pointer none, .pointer none]), 2, 16) := by kernel_rfl
theorem cell_two_at (w : World) (x y : Value) (t : TypeId) (b : Nat) (hb : b = w.heap.size) : ∀ j v, [x, y][j]? = some v → (w.alloc (.cells #[x, y] t)).cell? ((⟨b, 0, none⟩ : Addr).add j) = some v := by
  intro j u' hj
  subst hb
  have hh : (w.alloc (.cells #[x, y] t)).heap[w.heap.size]? = some (.cells #[x, y] t (0, 0)) := heap_alloc_new w _
  have hadd : (⟨w.heap.size, 0, none⟩ : Addr).add j = ⟨w.heap.size, 0 + j, none⟩ := Go.WideShapes.add_plain _ 0 j
  rw [hadd, cell_of_row _ w.heap.size (0 + j) _ _ _ hh, Nat.zero_add]
  match j, hj with
  | 0, hj => exact hj
  | 1, hj => exact hj
theorem Si.under {W : World} {mb : Nat} {x y : Ex} {p : Pq} {i : Nat} {wr w' : World} {v : Value} {l : List Pq} {m : Met} {S : Nat} (h : Si W mb x y p i wr v l m S) (hb : Below wr.heap.size wr w') : Si W mb x y p i w' v l m S :=
  ⟨own_below h.row hb, h.map.kept (hb.block mb h.map.lt), h.inn, h.below.trans (hb.mono h.below.size)⟩
/-- Behind a store in the map. -/
theorem Si.stored {W : World} {mb : Nat} {x y : Ex} {p : Pq} {i : Nat} {wr : World} {v : Value} {l : List Pq} {m : Met} {S : Nat} (h : Si W mb x y p i wr v l m S) (hmb : W.heap.size ≤ mb) {c : Pq} (hc : c.in W) :
    ∃ o, (Instr.mapUpdate 71 (.map (some mb)) (kB c.key) (.agg #[])).run Tryd.prog wr = .ok () (setBlock wr mb o) ∧ (setBlock wr mb o).ownsRow W.heap.size 73 2 v l.length (pqs l) ∧ PM kB vU (GB W) (setBlock wr mb o) mb (upd m c.key ()) ∧ Below W.heap.size W (setBlock wr mb o) ∧ (setBlock wr mb o).heap.size = wr.heap.size ∧
      ∀ k, k ≠ mb → (setBlock wr mb o).heap[k]? = wr.heap[k]? := by
  obtain ⟨o, h1, h2, es, clock, h3⟩ := h.map.store (keyP (tr_below h.below)) (a := c.key) (at_gb hc) Tryd.underlying71 ()
  refine ⟨o, h1, ?_, h2, ?_, by simp [setBlock], fun k hk => heap_setBlock_other h3 _ hk⟩
  · rcases h.row with ⟨g1, g2 | ⟨g, cap, cur, g3, g4, g5, g6⟩⟩
    · exact ⟨g1, .inl g2⟩
    · exact ⟨g1, .inr ⟨g, cap, cur, g3, g4, (heap_setBlock_other h3 _ (fun e => by rw [e, h3] at g5; cases g5)).trans g5, g6⟩⟩
  · have hb := h.below
    exact ⟨hb.os, hb.tape, hb.output, by simp [setBlock]; exact hb.size, fun k hk => (heap_setBlock_other h3 _ (by omega)).trans (hb.block k hk)⟩
theorem Si.looked {W : World} {mb : Nat} {x y : Ex} {p : Pq} {i : Nat} {wr : World} {v : Value} {l : List Pq} {m : Met} {S : Nat} (h : Si W mb x y p i wr v l m S) {c : Pq} (hc : c.in W) :
    (Instr.lookup 71 (.map (some mb)) (kB c.key) true).run Tryd.prog wr = .ok (.tuple #[.agg #[], .bool (m c.key).isSome]) wr := by
  have := h.map.look (keyP (tr_below h.below)) (a := c.key) (at_gb hc) Tryd.underlying71 (z := .agg #[]) (by kernel_rfl) true
  rw [this]
  cases m c.key <;> rfl
theorem Si.skip {W : World} {mb : Nat} {x y : Ex} {p : Pq} {i : Nat} {wr : World} {v : Value} {l : List Pq} {m : Met} {S : Nat} (h : Si W mb x y p i wr v l m S) {c : Pq} (hc : c.in W) (h1 : i < p.x.args.length) (h2 : i < p.y.args.length) (hx : c.x = p.x.args[i]) (hy : c.y = p.y.args[i]) (hm : (m c.key).isSome = true) :
    Si W mb x y p (i + 1) wr v l m S := by
  obtain ⟨u, hu⟩ := Option.isSome_iff_exists.1 hm
  exact ⟨h.row, h.map, h.inn.skip hc h1 h2 hx hy hu, h.below⟩
theorem Si.pushed {W : World} {mb : Nat} {x y : Ex} {p : Pq} {i : Nat} {wr ws w' : World} {v v' : Value} {l : List Pq} {m : Met} {S : Nat} {o : Obj} (h : Si W mb x y p i wr v l m S) {c : Pq} (hc : c.in W) (h1 : i < p.x.args.length) (h2 : i < p.y.args.length) (hx : c.x = p.x.args[i]) (hy : c.y = p.y.args[i])
    (hrow : ws.ownsRow W.heap.size 73 2 v l.length (pqs l)) (hmap : PM kB vU (GB W) ws mb (upd m c.key ())) (hbel : Below W.heap.size W ws) (hown : w'.ownsRow W.heap.size 73 2 v' (l.length + 1) (pqs l ++ c.cells)) (hg : (ws.alloc o).grownBy w' v.ownBlock) :
    Si W mb x y p (i + 1) w' v' (l ++ [c]) (upd m c.key ()) S := by
  have hlt := hmap.lt
  have hsa : (ws.alloc o).heap.size = ws.heap.size + 1 := by simp
  have hown2 := (World.ownsRow.lt hrow)
  refine ⟨by rw [List.length_append, List.length_singleton, pqs_snoc]; exact hown, hmap.kept ?_, h.inn.push hc h1 h2 hx hy, ?_⟩
  · rw [hg.block mb (by omega) (fun e => ?_), Below.heap_alloc ws o mb hlt]
    obtain ⟨es, clock, k1, _⟩ := hmap.is
    rcases hrow with ⟨_, ⟨rfl, _⟩ | ⟨g, cap, cur, rfl, _, g5, _⟩⟩
    · cases e
    · simp only [Value.ownBlock, Option.some.injEq] at e
      rw [← e, k1] at g5
      cases g5
  · exact (hbel.alloc hbel.size o).grown hg (by have := hbel.size; omega) (fun k hk => (hown2 k hk).1)
/-- The parts' places. -/
theorem At.kids {w : World} {b o : Nat} {x : Ex} (h : At w Any b o x) : ∃ a c, w.cell? ⟨b, o, none⟩ = some (.int .u8 (x.op : Int)) ∧ w.cell? ⟨b, o + 1, none⟩ = some (.int .i64 x.n) ∧ w.cell? ⟨b, o + 2, none⟩ = some (.slice a x.args.length c) ∧
    (0 < x.args.length → ∃ b, a = some ⟨b, 0, none⟩ ∧ ∀ i (h : i < x.args.length), At w Any b (i * 3) x.args[i]) := by
  obtain ⟨a, c, h1, h2, h3, _, h4⟩ := h.cells
  exact ⟨a, c, h1, h2, h3, h4⟩

set_option maxHeartbeats 3200000 in
set_option maxRecDepth 1000000 in
theorem same_any {x y : Ex} {v u : Value} {F F' : Nat → Prop} {w : World} (hx : Lies w F v x.args) (hy : Lies w F' u y.args) (hs : x.size ≤ 1000000) : Calls Tryd.prog 42 #[exV x v, exV y u] w (SPost x y w) := by
  have hmm := @run_makeMap Tryd.prog
  obtain ⟨N, W, hW, hT⟩ := two_made w x y v u
  obtain ⟨W1, hW1⟩ : ∃ W1, (W.alloc (.map #[] 0)).alloc (.cells #[.pointer (some ⟨N, 0, none⟩), .pointer (some ⟨N + 1, 0, none⟩)] 73) = W1 := ⟨_, rfl⟩
  have hN := hT.size
  have hWs := hT.lt
  have hSM : Hid (Sm W (N + 1 + 1) x y W1 (.slice (some ⟨N + 1 + 1 + 1, 0, none⟩) 1 1) [⟨N, 0, N + 1, 0, x, y⟩] (fun _ => none) x.size) := Lib.hid (by
    have hpx : (⟨N, 0, N + 1, 0, x, y⟩ : Pq).in W := by
      refine ⟨⟨#[.int .u8 (x.op : Int), .int .i64 x.n, v], v, trivial, ?_, rfl, rfl, rfl, (hx.mono (fun _ _ => trivial)).under hT.below⟩, ⟨#[.int .u8 (y.op : Int), .int .i64 y.n, u], u, trivial, ?_, rfl, rfl, rfl, (hy.mono (fun _ _ => trivial)).under hT.below⟩⟩
      · rw [← hW]; exact heap_old (heap_last hN.symm)
      · rw [← hW]; exact heap_last (by simp [hN])
    have hsz : (W.alloc (.map #[] 0)).heap.size = N + 1 + 1 + 1 := by simp [hWs]
    refine ⟨?_, ?_, ⟨(fun e he => by rw [List.mem_singleton.1 he]; exact hpx), (fun h e he => by rw [List.mem_singleton.1 he]; exact h), (fun h => h ⟨N, 0, N + 1, 0, x, y⟩ (by simp)), (fun k z hk => by cases hk), (by simp [lsum])⟩, ?_⟩
    · have := World.ownsRow_lit (base := W.heap.size) (e := 73) (size := 2) (W.alloc (.map #[] 0)) #[.pointer (some ⟨N, 0, none⟩), .pointer (some ⟨N + 1, 0, none⟩)] 1 (by simp) (by unfold maxLen; omega) rfl
      rw [hsz, hW1] at this
      exact this
    · have h1 : PM kB vU (GB W) (W.alloc (.map #[] 0)) W.heap.size (fun _ => none) := PM.made W
      rw [hWs] at h1
      refine h1.kept ?_
      rw [← hW1]
      exact Below.heap_alloc _ _ _ (by rw [hsz]; omega)
    · rw [← hW1]
      exact ((Below.refl _ _).alloc (Nat.le_refl _) _).alloc (by simp) _)
  obtain ⟨x0, x1, x2, y0, y1, y2⟩ : _ ∧ _ ∧ _ ∧ _ ∧ _ ∧ _ := ⟨hT.x0, hT.x1, hT.x2, hT.y0, hT.y1, hT.y2⟩
  have HT := Lib.hid hT
  have HS := Lib.hid hs
  clear hT hx hy hs
  unfold exV
  go_enter Tryd.func42, Tryd.ntmps42
  go_wp2_with fail
  go_loopg [6, 7, 8, 9, 10, 11, 12] x.size (fun g v6 v7 v8 v9 v10 v11 v12 wr => ∃ (l : List Pq) (m : Met), g ≤ 1000000 ∧ Sm W (N + 1 + 1) x y wr v6 l m g)
  case atStart => exact ⟨_, _, HS.out, hSM.out⟩
  case round =>
    rename Nat => G
    rename World => wr
    obtain ⟨l, m, hg6, hsm⟩ := hrel
    rcases List.eq_nil_or_concat l with rfl | ⟨l, p, rfl⟩
    · have HSM := Lib.hid hsm; clear hsm
      obtain ⟨a, c, rfl⟩ : ∃ a c, u6 = Value.slice a 0 c := by
        rcases HSM.out.row.2 with ⟨h, _⟩ | ⟨g, cap, _, h, _⟩
        · exact ⟨none, 0, h⟩
        · exact ⟨_, cap, h⟩
      have HP : Hid (SPost x y w (.returned (.bool true)) wr) := Lib.hid (SPost.yes (HSM.out.out.up (fun e he => by cases he)) (HT.out.below.trans (HSM.out.below.mono HT.out.below.size)))
      go_wp2_with fail
      try rw [Exit.noGoto_ret]
      go_ret
      exact HP.out
    · rw [List.concat_eq_append] at hsm
      obtain ⟨g, cap, rfl, hc0, hc1, hcap, hsi⟩ := hsm.last
      have HSM := Lib.hid hsm; have HSI := Lib.hid hsi; clear hsm hsi
      obtain ⟨k, hk⟩ : ∃ k, l.length = k := ⟨_, rfl⟩
      have hk6 : (k : Int) ≤ 1000000 := by have h1 := HSM.out.out.mass; have h2 := lsum_len l; rw [lsum_snoc] at h1; omega
      rw [hk] at hc0 hc1 hcap
      rw [hk] at HSI
      obtain ⟨n, hn⟩ : ∃ n, k + 1 = n := ⟨_, rfl⟩
      rw [hk, hn]
      have hn1 : ((n : Int) - 1) = (k : Int) := by omega
      have hw1 : IntKind.i64.wrap (k : Int) = (k : Int) := IntWalk.i64_in _ ⟨by omega, by omega⟩
      have hkn : (k : Int) < (n : Int) := by omega
      have hkc : (k : Int) ≤ (cap : Int) := by omega
      have hn0 : (n : Int) > 0 := by omega
      have HN := Lib.hid hn; have HK := Lib.hid hk; clear hn hk
      go_wp2_with fail
      go_quiet (fail)
      go_wp2_with fail
      have HS4 : Hid (Si W (N + 1 + 1) x y p 0 (wr.drewN nq) (.slice (some ⟨g, 0, none⟩) k cap) l m G) := Lib.hid (HSI.out.under (belowN (Below.refl _ _) nq))
      generalize wr.drewN nq = w4 at HS4 ⊢
      have hpin := HSM.out.out.ins p (by simp)
      obtain ⟨a1, d1, p0, p1, p2, hk1⟩ := hpin.1.kids
      obtain ⟨a2, d2, q0, q1, q2, hk2⟩ := hpin.2.kids
      have HP1 := Lib.hid (And.intro p2 hk1); have HP2 := Lib.hid (And.intro q2 hk2)
      have HPI := Lib.hid hpin
      have tc : ∀ {b o : Nat} {z : Value}, W.cell? ⟨b, o, none⟩ = some z → b < W.heap.size → w4.cell? ⟨b, o, none⟩ = some z := fun {b o z} hz hb => (HS4.out.below.cell (p := ⟨b, o, none⟩) hb).trans hz
      have r0 := tc p0 hpin.1.lt; have r1 := tc p1 hpin.1.lt; have r2 := tc p2 hpin.1.lt
      have t0 := tc q0 hpin.2.lt; have t1 := tc q1 hpin.2.lt; have t2 := tc q2 hpin.2.lt
      clear tc p0 p1 p2 q0 q1 q2 hk1 hk2 hpin
      have HBW : Hid (Below w.heap.size w w4) := Lib.hid (HT.out.below.trans (HS4.out.below.mono HT.out.below.size))
      by_cases ho : p.x.op = p.y.op
      · have ho' : ((p.x.op : Int) != (p.y.op : Int)) = false := by simp [ho]
        have HO := Lib.hid ho; clear ho
        by_cases hnn : p.x.n = p.y.n
        · have hnn' : (p.x.n != p.y.n) = false := by simp [hnn]
          have HNN := Lib.hid hnn; clear hnn
          by_cases hl : p.x.args.length = p.y.args.length
          · have hl' : ((p.x.args.length : Int) != (p.y.args.length : Int)) = false := by simp [hl]
            have HL := Lib.hid hl; clear hl
            go_quiet (fail)
            go_wp2_with fail
            have HS5 : Hid (Si W (N + 1 + 1) x y p 0 (w4.drewN nq) (.slice (some ⟨g, 0, none⟩) k cap) l m G) := Lib.hid (HS4.out.under (belowN (Below.refl _ _) nq))
            generalize w4.drewN nq = w5 at HS5 ⊢
            have hlen6 : (p.x.args.length : Int) ≤ 1000000 := by
              have h1 := HSM.out.out.mass; have h2 := size_eq p.x; have h3 := sizes_len p.x.args; rw [lsum_snoc] at h1; omega
            have hdec : decide (0 < n) = true := by have := HN.out; simp; omega
            rw [hdec]
            clear hdec
            go_loopg [76, 6, 9, 10, 11, 12] p.x.args.length (fun g2 v76 v6 v9 v10 v11 v12 wx => ∃ (i : Nat) (l' : List Pq) (m' : Met), i + g2 = p.x.args.length ∧ v76 = .int .i64 (i : Int) ∧ Si W (N + 1 + 1) x y p i wx v6 l' m' G)
            case atStart => exact ⟨0, l, m, by omega, rfl, HS5.out⟩
            case round =>
              rename World => wx
              obtain ⟨i, l', m', hi, rfl, hsi⟩ := hrel
              have HI := Lib.hid hsi; clear hsi
              by_cases hin : i < p.x.args.length
              · have hin2 : i < p.y.args.length := by rw [← HL.out]; exact hin
                obtain ⟨b1, rfl, e1⟩ := HP1.out.2 (by omega)
                obtain ⟨b2, rfl, e2⟩ := HP2.out.2 (by omega)
                have HC : Hid ((⟨b1, i * 3, b2, i * 3, p.x.args[i], p.y.args[i]⟩ : Pq).in W) := Lib.hid ⟨e1 i hin, e2 i hin2⟩
                obtain ⟨Nx, hNx⟩ : ∃ Nx, wx.heap.size = Nx := ⟨_, rfl⟩
                obtain ⟨wa, hwa⟩ : ∃ wa, wx.alloc (.cells #[.pointer none, .pointer none] 73) = wa := ⟨_, rfl⟩
                have hba : Below wx.heap.size wx wa := by rw [← hwa]; exact (Below.refl _ _).alloc (Nat.le_refl _) _
                have hIA := HI.out.under hba
                have s2 : wa.cell? ⟨p.a, p.b + 2, none⟩ = some (.slice (some ⟨b1, 0, none⟩) p.x.args.length d1) := (hIA.below.cell (p := ⟨p.a, p.b + 2, none⟩) HPI.out.1.lt).trans HP1.out.1
                have u2 : wa.cell? ⟨p.c, p.d + 2, none⟩ = some (.slice (some ⟨b2, 0, none⟩) p.y.args.length d2) := (hIA.below.cell (p := ⟨p.c, p.d + 2, none⟩) HPI.out.2.lt).trans HP2.out.1
                have s2x : wx.cell? ⟨p.a, p.b + 2, none⟩ = some (.slice (some ⟨b1, 0, none⟩) p.x.args.length d1) := (HI.out.below.cell (p := ⟨p.a, p.b + 2, none⟩) HPI.out.1.lt).trans HP1.out.1
                have u2x : wx.cell? ⟨p.c, p.d + 2, none⟩ = some (.slice (some ⟨b2, 0, none⟩) p.y.args.length d2) := (HI.out.below.cell (p := ⟨p.c, p.d + 2, none⟩) HPI.out.2.lt).trans HP2.out.1
                have hbx : wa.heap[Nx]? = some (.cells #[.pointer none, .pointer none] 73 (0, 0)) := by rw [← hwa]; exact heap_last hNx.symm
                have z0 : wa.cell? ⟨Nx, 0, none⟩ = some (.pointer none) := cell_of hbx rfl
                have z1 : wa.cell? ⟨Nx, 1, none⟩ = some (.pointer none) := cell_of hbx rfl
                have z2 : wa.frozen? ⟨Nx, 0, none⟩ = false := by simp [World.frozen?, hbx]
                have z3 : wa.frozen? ⟨Nx, 1, none⟩ = false := by simp [World.frozen?, hbx]
                have HRES : Hid (∀ w3 : World, w3.heap = ((wa.setCell ⟨Nx, 0, none⟩ (.pointer (some ⟨b1, i * 3, none⟩))).setCell ⟨Nx, 1, none⟩ (.pointer (some ⟨b2, i * 3, none⟩))).heap → w3.os = wa.os → w3.tape = wa.tape → w3.output = wa.output →
                    w3.heap[Nx]? = some (.cells #[.pointer (some ⟨b1, i * 3, none⟩), .pointer (some ⟨b2, i * 3, none⟩)] 73 (0, 0)) ∧ Si W (N + 1 + 1) x y p i w3 u6 l' m' G) := Lib.hid (by
                  intro w3 g1 g2 g3 g4
                  have hh1 := heap_setCell_same wa Nx 0 _ 73 (.pointer (some ⟨b1, i * 3, none⟩)) hbx
                  have hh2 := heap_setCell_same _ Nx 1 _ 73 (.pointer (some ⟨b2, i * 3, none⟩)) hh1
                  have hb3 : Below wx.heap.size wx w3 := by
                    have hb := ((hba.setCell (p := ⟨Nx, 0, none⟩) (by show wx.heap.size ≤ Nx; omega) (.pointer (some ⟨b1, i * 3, none⟩))).setCell (p := ⟨Nx, 1, none⟩) (by show wx.heap.size ≤ Nx; omega) (.pointer (some ⟨b2, i * 3, none⟩)))
                    exact ⟨g2.trans hb.os, g3.trans hb.tape, g4.trans hb.output, by rw [g1]; exact hb.size, fun k hk => by rw [g1]; exact hb.block k hk⟩
                  exact ⟨by rw [g1]; exact hh2, HI.out.under hb3⟩)
                clear hIA hbx hba
                have hi1 : (i : Int) < (p.x.args.length : Int) := by omega
                have hi2 : (i : Int) < (p.y.args.length : Int) := by omega
                clear e1 e2
                go_wp2_with fail
                go_upto_region 11 with fail
                go_cut [10] (fun t w3 => t = .pointer (some ⟨Nx, 0, none⟩) ∧ w3.heap[Nx]? = some (.cells #[.pointer (some ⟨b1, i * 3, none⟩), .pointer (some ⟨b2, i * 3, none⟩)] 73 (0, 0)) ∧ Si W (N + 1 + 1) x y p i w3 u6 l' m' G)
                case first =>
                  go_region
                  all_goals (go_wp2_with fail; go_meet; exact ⟨rfl, HRES.out _ rfl rfl rfl rfl⟩)
                case rest =>
                  rename World => wp
                  obtain ⟨rfl, hbp, hsp⟩ := hcut
                  have HIP := Lib.hid hsp
                  have y0 : wp.cell? ⟨Nx, 0, none⟩ = some (.pointer (some ⟨b1, i * 3, none⟩)) := cell_of hbp rfl
                  have y1 : wp.cell? ⟨Nx, 1, none⟩ = some (.pointer (some ⟨b2, i * 3, none⟩)) := cell_of hbp rfl
                  have hlk := HIP.out.looked HC.out
                  unfold kB Pq.key at hlk
                  simp only [] at hlk
                  have HBP := Lib.hid hbp
                  obtain ⟨bm, hbm⟩ : ∃ bm, (m' (⟨b1, i * 3, none⟩, ⟨b2, i * 3, none⟩)).isSome = bm := ⟨_, rfl⟩
                  rw [hbm] at hlk
                  have HBM := Lib.hid hbm
                  clear hsp hbp hbm
                  obtain ⟨wq, hwq⟩ : ∃ wq, wp.alloc (.cells #[] 75) = wq := ⟨_, rfl⟩
                  have hpq : Below wp.heap.size wp wq := by rw [← hwq]; exact (Below.refl _ _).alloc (Nat.le_refl _) _
                  have HIQ := Lib.hid (HIP.out.under hpq)
                  have y0q : wq.cell? ⟨Nx, 0, none⟩ = some (.pointer (some ⟨b1, i * 3, none⟩)) := (hpq.cell (p := ⟨Nx, 0, none⟩) (Array.getElem?_eq_some_iff.1 HBP.out).1).trans y0
                  have y1q : wq.cell? ⟨Nx, 1, none⟩ = some (.pointer (some ⟨b2, i * 3, none⟩)) := (hpq.cell (p := ⟨Nx, 1, none⟩) (Array.getElem?_eq_some_iff.1 HBP.out).1).trans y1
                  have HBQ : Hid (wq.heap[Nx]? = some (.cells #[.pointer (some ⟨b1, i * 3, none⟩), .pointer (some ⟨b2, i * 3, none⟩)] 73 (0, 0))) := Lib.hid ((hpq.block Nx (Array.getElem?_eq_some_iff.1 HBP.out).1).trans HBP.out)
                  clear hpq
                  cases bm with
                  | true =>
                    have HNX : Hid (Si W (N + 1 + 1) x y p (i + 1) wq u6 l' m' G) := Lib.hid (HIQ.out.skip HC.out hin hin2 rfl rfl HBM.out)
                    go_wp2_with fail
                    go_roundg (gk - 1)
                    case measure => omega
                    case rel => exact ⟨i + 1, l', m', by omega, by go_num, HNX.out⟩
                  | false =>
                    obtain ⟨i0, hi0, hz0, hz1, hz2⟩ := info_parts infoPair
                    obtain ⟨ob, hmu, hrow, hmap, hbel, hsz, hoth⟩ := HIQ.out.stored (by have := hWs; omega) HC.out
                    unfold kB Pq.key at hmu
                    simp only [] at hmu
                    obtain ⟨ws, hws⟩ : ∃ ws, setBlock wq (N + 1 + 1) ob = ws := ⟨_, rfl⟩
                    rw [hws] at hmu hrow hmap hbel hsz hoth
                    have hne : Nx ≠ N + 1 + 1 := fun e => by
                      obtain ⟨es, clock, h1, _⟩ := HIQ.out.map.is
                      rw [← e, HBQ.out] at h1
                      cases h1
                    have y0s : ws.cell? ⟨Nx, 0, none⟩ = some (.pointer (some ⟨b1, i * 3, none⟩)) := cell_of ((hoth Nx hne).trans HBQ.out) rfl
                    have y1s : ws.cell? ⟨Nx, 1, none⟩ = some (.pointer (some ⟨b2, i * 3, none⟩)) := cell_of ((hoth Nx hne).trans HBQ.out) rfl
                    have hl6 : l'.length ≤ 1000000 := by have h1 := HI.out.inn.mass; have h2 := lsum_len l'; omega
                    have HROW := Lib.hid hrow; have HMAP := Lib.hid hmap; have HBEL := Lib.hid hbel
                    have HSZ : Hid (∀ o, W.heap.size ≤ (ws.alloc o).heap.size) := Lib.hid (fun o => by rw [World.size_alloc]; have := hbel.size; omega)
                    clear hrow hmap hbel hsz hoth hne hws
                    go_wp2_with (at_builtin; refine wpList_append_own _ rfl (.tmp 103) (.tmp 105) 74 rfl W.heap.size 73 i0 (.agg #[.pointer none, .pointer none]) 2 16 Tryd.underlying74 hi0 hz0 hz1 hz2 rfl (by decide) _ _ _ rfl (HROW.out.alloc _) ⟨_, 0, none⟩ 1 1 [.pointer (some ⟨b1, i * 3, none⟩), .pointer (some ⟨b2, i * 3, none⟩)] rfl rfl (cell_two_at _ _ _ _ _ rfl) (by simp [Value.oneCell']) (by unfold maxLen; omega) (by omega) (HSZ.out _) ?_)
                    intro v' w' hown' hgrow _
                    have HNX : Hid (Si W (N + 1 + 1) x y p (i + 1) w' v' (l' ++ [⟨b1, i * 3, b2, i * 3, p.x.args[i], p.y.args[i]⟩]) (upd m' (Pq.key ⟨b1, i * 3, b2, i * 3, p.x.args[i], p.y.args[i]⟩) ()) G) := Lib.hid (Si.pushed HIQ.out HC.out hin hin2 rfl rfl HROW.out HMAP.out HBEL.out (by rw [hWs]; exact hown') hgrow)
                    clear hown' hgrow
                    go_wp2_with fail
                    go_roundg (gk - 1)
                    case measure => omega
                    case rel => exact ⟨i + 1, _, _, by omega, by go_num, HNX.out⟩
              · have hin' : ¬ (i : Int) < (p.x.args.length : Int) := by omega
                have HX : Hid (Sm W (N + 1 + 1) x y wx u6 l' m' (G - 1)) := Lib.hid ⟨HI.out.row, HI.out.map, HI.out.inn.out (by omega) HO.out HNN.out HL.out, HI.out.below⟩
                have hgk : 1 ≤ G := by have h1 := HSM.out.out.mass; have h2 := size_pos p.x; rw [lsum_snoc] at h1; omega
                go_wp2_with fail
                go_roundg (G - 1)
                case measure => omega
                case rel => exact ⟨l', m', by omega, HX.out⟩
          · have hl' : ((p.x.args.length : Int) != (p.y.args.length : Int)) = true := by simp; omega
            have HE : Hid (x ≠ y) := Lib.hid (HSM.out.out.ne (fun e => hl (by rw [e])))
            clear hl
            go_quiet (fail)
            go_wp2_with fail
            try rw [Exit.noGoto_ret]
            go_ret
            exact SPost.no HE.out (belowN HBW.out _)
        · have hnn' : (p.x.n != p.y.n) = true := by simp [hnn]
          have HE : Hid (x ≠ y) := Lib.hid (HSM.out.out.ne (fun e => hnn (by rw [e])))
          clear hnn
          go_quiet (fail)
          go_wp2_with fail
          try rw [Exit.noGoto_ret]
          go_ret
          exact SPost.no HE.out (belowN HBW.out _)
      · have ho' : ((p.x.op : Int) != (p.y.op : Int)) = true := by simp; omega
        have HE : Hid (x ≠ y) := Lib.hid (HSM.out.out.ne (fun e => ho (by rw [e])))
        clear ho
        go_quiet (fail)
        go_wp2_with fail
        try rw [Exit.noGoto_ret]
        go_ret
        exact SPost.no HE.out (belowN HBW.out _)
end Go.Proofs.YtjmfneljgogohaaDoor.exp

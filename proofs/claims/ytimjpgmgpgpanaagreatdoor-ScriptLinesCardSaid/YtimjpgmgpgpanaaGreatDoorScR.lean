/- Two jobs that tell the same are the same: job.Same. -/
import Derived.Test.YtimjpgmgpgpanaaGreatDoorScQ
namespace Go.Proofs.YtimjpgmgpgpanaaGreatDoor.sc
set_option linter.unusedSimpArgs false
set_option linter.unusedVariables false
open Go.RowKit nam exp jb

/-- A node of a row, and what it is loaded into. -/
theorem node_at {w wr : World} {v : Value} {l : List Nd} {n : Nat} (h : Nodes w v l) (hn : l.length = n) (hb : Below w.heap.size w wr) {k : Nat} (hk : k < l.length) :
    ∃ b c ai ci aa ca, v = .slice (some ⟨b, 0, none⟩) n c ∧ wr.cell? ⟨b, k * 7, none⟩ = some (.string l[k].uid) ∧ wr.cell? ⟨b, k * 7 + 1, none⟩ = some (.int .u8 (l[k].kind : Int)) ∧ wr.cell? ⟨b, k * 7 + 2, none⟩ = some (.slice ai l[k].ins.length ci) ∧
      wr.cell? ⟨b, k * 7 + 3, none⟩ = some (.int .u8 (l[k].x.op : Int)) ∧ wr.cell? ⟨b, k * 7 + 4, none⟩ = some (.int .i64 l[k].x.n) ∧ wr.cell? ⟨b, k * 7 + 5, none⟩ = some (.slice aa l[k].x.args.length ca) ∧ wr.cell? ⟨b, k * 7 + 6, none⟩ = some (.int .i64 l[k].n) ∧
      IRow wr (.slice ai l[k].ins.length ci) l[k].ins ∧ Lies wr Any (.slice aa l[k].x.args.length ca) l[k].x.args := by
  obtain ⟨a, c, rfl, -, h2⟩ := h.on hb
  obtain ⟨b, rfl, hat⟩ := h2 (by omega)
  obtain ⟨hb0, vi, va, c0, c1, c2, c3, c4, c5, c6, hvi, hva⟩ := hat k hk
  obtain ⟨ai, ci, rfl, -⟩ := id hvi
  obtain ⟨aa, ca, rfl, -⟩ := hva.form
  exact ⟨b, c, ai, ci, aa, ca, by rw [hn], c0, c1, c2, c3, c4, c5, c6, hvi, hva⟩
set_option maxHeartbeats 1600000 in
set_option maxRecDepth 1000000 in
theorem equalFunc_yes {w : World} {u v : Value} {l : List Nd} (h : Nodes w u l) (h' : Nodes w v l) (hll : l.length ≤ 1000) (hs : ∀ nd ∈ l, nd.ins.length ≤ 1000000 ∧ nd.x.size ≤ 1000000) :
    Calls Tryz.prog 29 #[u, v, .func (.func 30) #[] #[]] w fun e w' => e = .returned (.bool true) ∧ Below w.heap.size w w' := by
  have HU := Lib.hid h; have HV := Lib.hid h'; have HS := Lib.hid hs
  obtain ⟨a, c, rfl, -, -⟩ := id h
  obtain ⟨a', c', rfl, -, -⟩ := id h'
  obtain ⟨n, hn⟩ : ∃ n, l.length = n := ⟨_, rfl⟩
  have HN := Lib.hid hn
  rw [hn] at HU HV hll ⊢
  clear h h' hs hn
  go_enter Tryz.func29, Tryz.ntmps29
  go_wp2_with fail
  go_loopg [17] n (fun g v17 wr => ∃ k : Nat, k + g = n ∧ v17 = .int .i64 (k : Int) ∧ Below w.heap.size w wr)
  case atStart => exact ⟨0, by omega, rfl, Below.refl _ _⟩
  case round =>
    obtain ⟨k, hkg, rfl, hb⟩ := hrel
    have HB := Lib.hid hb; clear hb
    by_cases hkn : k < n
    · have hki : (k : Int) < (n : Int) := by omega
      have hkl : k < l.length := by rw [HN.out]; exact hkn
      obtain ⟨b, cc, ai, ci, aa, ca, he, c0, c1, c2, c3, c4, c5, c6, hvi, hva⟩ := node_at HU.out HN.out HB.out hkl
      obtain ⟨b', cc', aj, cj, ab, cb, he', d0, d1, d2, d3, d4, d5, d6, hvj, hvb⟩ := node_at HV.out HN.out HB.out hkl
      simp only [Value.slice.injEq] at he he'
      obtain ⟨rfl, -, -⟩ := he
      obtain ⟨rfl, -, -⟩ := he'
      obtain ⟨nd, hnd⟩ : ∃ x, l[k] = x := ⟨_, rfl⟩
      have hsz := HS.out _ (List.getElem_mem hkl)
      rw [hnd] at c0 c1 c2 c3 c4 c5 c6 d0 d1 d2 d3 d4 d5 d6 hvi hva hvj hvb hsz
      obtain ⟨N, hN⟩ : ∃ N, wr.heap.size = N := ⟨_, rfl⟩
      obtain ⟨W1, hW1⟩ : ∃ W, wr.alloc (.cells #[.string nd.uid, .int .u8 (nd.kind : Int), .slice ai nd.ins.length ci, .int .u8 (nd.x.op : Int), .int .i64 nd.x.n, .slice aa nd.x.args.length ca, .int .i64 nd.n] 50) = W := ⟨_, rfl⟩
      obtain ⟨W2, hW2⟩ : ∃ W, W1.alloc (.cells #[.string nd.uid, .int .u8 (nd.kind : Int), .slice aj nd.ins.length cj, .int .u8 (nd.x.op : Int), .int .i64 nd.x.n, .slice ab nd.x.args.length cb, .int .i64 nd.n] 50) = W := ⟨_, rfl⟩
      have hb1 : Below wr.heap.size wr W1 := by rw [← hW1]; exact below_made _ _
      have hb12 : Below W1.heap.size W1 W2 := by rw [← hW2]; exact below_made _ _
      have hb2 : Below wr.heap.size wr W2 := hb1.trans (hb12.mono hb1.size)
      obtain ⟨x0, x1, x2, x3, x4, x5, x6⟩ := box7 hW1
      obtain ⟨y0, y1, y2, y3, y4, y5, y6⟩ := box7 hW2
      have hs1 : W1.heap.size = N + 1 := by rw [← hW1, World.size_alloc, hN]
      rw [hN] at x0 x1 x2 x3 x4 x5 x6
      rw [hs1] at y0 y1 y2 y3 y4 y5 y6
      have z0 := cell_on x0 hb12; have z1 := cell_on x1 hb12; have z2 := cell_on x2 hb12; have z3 := cell_on x3 hb12; have z4 := cell_on x4 hb12; have z5 := cell_on x5 hb12; have z6 := cell_on x6 hb12
      have e0 := cell_on d0 hb1; have e1 := cell_on d1 hb1; have e2 := cell_on d2 hb1; have e3 := cell_on d3 hb1; have e4 := cell_on d4 hb1; have e5 := cell_on d5 hb1; have e6 := cell_on d6 hb1
      have HSM := Lib.hid (same_yes (w := W2) (u := nodeV nd (.slice ai nd.ins.length ci) (.slice aa nd.x.args.length ca)) (v := nodeV nd (.slice aj nd.ins.length cj) (.slice ab nd.x.args.length cb)) ⟨_, _, rfl, hvi.on hb2, hva.under hb2⟩ ⟨_, _, rfl, hvj.on hb2, hvb.under hb2⟩ hsz.1 hsz.2)
      unfold nodeV at HSM
      have HB2 : Hid (Below w.heap.size w W2) := Lib.hid (HB.out.trans (hb2.mono HB.out.size))
      have HNN := Lib.hid hN; have HS1 := Lib.hid hs1; have HW1 := Lib.hid hW1; have HW2 := Lib.hid hW2
      clear hvi hva hvj hvb hsz hnd hN hW1 hW2 hb1 hb12 hb2 hs1 d0 d1 d2 d3 d4 d5 d6 x0 x1 x2 x3 x4 x5 x6 hkn hkl
      go_upto_region 6 with fail
      rw [HW1.out, HNN.out]
      go_upto_region 7 with fail
      rw [HW2.out, HS1.out]
      go_wp2_with fail
      refine HSM.out.mono ?_
      rintro e w3 ⟨rfl, hb3⟩
      have HB3 := Lib.hid (HB2.out.trans (hb3.mono HB2.out.size))
      clear hb3 y0 y1 y2 y3 y4 y5 y6 z0 z1 z2 z3 z4 z5 z6
      go_wp2_with fail
      go_roundg (gk - 1)
      case rel => exact ⟨k + 1, by omega, by go_num, HB3.out⟩
      case measure => omega
    · have hki : ¬ (k : Int) < (n : Int) := by omega
      clear hkn
      go_wp2_with fail
      try rw [Exit.noGoto_ret]
      go_ret
      exact ⟨rfl, HB.out⟩
/-- Two jobs that tell the same. -/
theorem jobSame_yes {w : World} {u v : Value} {l : List Nd} (par : Int) (h : Nodes w u l) (h' : Nodes w v l) (hll : l.length ≤ 1000) (hs : ∀ nd ∈ l, nd.ins.length ≤ 1000000 ∧ nd.x.size ≤ 1000000) :
    Calls Tryz.prog 12 #[.agg #[.int .i64 par, u], .agg #[.int .i64 par, v]] w fun e w' => e = .returned (.bool true) ∧ Below w.heap.size w w' := by
  obtain ⟨a, c, rfl, -, -⟩ := id h
  obtain ⟨a', c', rfl, -, -⟩ := id h'
  obtain ⟨N, hN⟩ : ∃ N, w.heap.size = N := ⟨_, rfl⟩
  obtain ⟨W1, hW1⟩ : ∃ W, w.alloc (.cells #[.int .i64 par, .slice a l.length c] 24) = W := ⟨_, rfl⟩
  obtain ⟨W2, hW2⟩ : ∃ W, W1.alloc (.cells #[.int .i64 par, .slice a' l.length c'] 24) = W := ⟨_, rfl⟩
  have hb1 : Below w.heap.size w W1 := by rw [← hW1]; exact below_made _ _
  have hb12 : Below W1.heap.size W1 W2 := by rw [← hW2]; exact below_made _ _
  have hb2 : Below w.heap.size w W2 := hb1.trans (hb12.mono hb1.size)
  obtain ⟨x0, x1⟩ := box2 hW1
  obtain ⟨y0, y1⟩ := box2 hW2
  have hs1 : W1.heap.size = N + 1 := by rw [← hW1, World.size_alloc, hN]
  rw [hN] at x0 x1
  rw [hs1] at y0 y1
  have z0 := cell_on x0 hb12
  have z1 := cell_on x1 hb12
  have HE := Lib.hid (equalFunc_yes (h.on hb2) (h'.on hb2) hll hs)
  have HB2 := Lib.hid hb2
  have HNN := Lib.hid hN; have HW1 := Lib.hid hW1; have HW2 := Lib.hid hW2
  clear h h' hs hll hN hW1 hW2 hs1 hb1 hb12 hb2 x0 x1
  go_enter Tryz.func12, Tryz.ntmps12
  go_upto_region 1 with fail
  rw [HW1.out, HW2.out, HNN.out]
  go_wp2_with fail
  refine HE.out.mono ?_
  rintro e w1 ⟨rfl, hb1⟩
  have HB3 := Lib.hid (HB2.out.trans (hb1.mono HB2.out.size))
  clear hb1
  go_wp2_with fail
  go_ret
  exact ⟨rfl, HB3.out⟩
/-! What is read is small. -/
theorem goO_may : ∀ (L : List ByteArray) (i : Nat) (r : Rdr), (goO L i r).2.1 = [] ∨ (mayO (goO L i r).1 (goO L i r).2.1).2 = 0
  | [], i, r => by
    rw [goO]
    unfold wholeO
    split
    · exact .inl rfl
    · split
      · rename_i h; exact .inr h
      · split <;> exact .inl rfl
  | l :: t, i, r => by
    rw [goO]
    split
    · exact goO_may t (i + 1) r
    · cases takeO r l with
      | error e => exact .inl rfl
      | ok q => exact goO_may t (i + 1) _
theorem parse_small' (s : ByteArray) : (parseJ s).2.1.length ≤ 1000 ∧ ∀ nd ∈ (parseJ s).2.1, nd.ins.length ≤ 1000000 ∧ nd.x.size ≤ 1000000 := by
  have h : (parseJ s).2.1 = [] ∨ (mayO (parseJ s).1 (parseJ s).2.1).2 = 0 := by
    unfold parseJ
    split
    · exact .inl rfl
    · exact goO_may _ _ _
  rcases h with h | h
  · rw [h]; exact ⟨by simp, fun nd hn => by cases hn⟩
  · generalize (parseJ s).1 = p at h
    generalize (parseJ s).2.1 = l at h
    unfold mayO at h
    by_cases hb : boundedB p l = false
    · rw [if_pos hb] at h; exact absurd h (by decide)
    · rw [if_neg hb] at h
      obtain ⟨h1, h2⟩ := bounded_len (by simpa using hb : boundedB p l = true)
      by_cases ha : (aloneO l).2 = 0
      · exact ⟨by omega, fun nd hn => ⟨by have := (alone_all ha).2 nd hn; omega, by have := h2 nd hn; omega⟩⟩
      · rw [if_pos ha] at h; exact absurd h ha
end Go.Proofs.YtimjpgmgpgpanaaGreatDoor.sc

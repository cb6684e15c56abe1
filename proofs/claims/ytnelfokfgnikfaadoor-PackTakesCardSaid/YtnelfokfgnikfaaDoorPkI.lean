/- What changelingref12.Same answers of two jobs that are the same. -/
import Derived.Test.YtnelfokfgnikfaaDoorPkQ
import Derived.BigQuiet
namespace Go.Proofs.YtnelfokfgnikfaaDoor.pk
set_option linter.unusedSimpArgs false
set_option linter.unusedVariables false
open Go.RowKit nam exp jb

set_option maxHeartbeats 800000 in
set_option maxRecDepth 1000000 in
theorem ints_same {w : World} {u v : Value} {l : List Int} (hu : IRow w u l) (hv : IRow w v l) (hl : l.length ≤ 1000000) : Calls Tryd.prog 31 #[u, v] w fun e w' => e = .returned (.bool true) ∧ Below w.heap.size w w' := by
  obtain ⟨a, c, rfl, h2⟩ := hu
  obtain ⟨a', c', rfl, h3⟩ := hv
  have HC := Lib.hid h2; have HD := Lib.hid h3
  clear h2 h3
  obtain ⟨n, hn⟩ : ∃ n, l.length = n := ⟨_, rfl⟩
  have HN := Lib.hid hn
  rw [hn] at hl
  rw [hn]
  clear hn
  go_enter Tryd.func31, Tryd.ntmps31
  go_wp2_with fail
  go_loopg [5] n (fun g v5 wr => ∃ k : Nat, k + g = n ∧ v5 = .int .i64 k ∧ Below w.heap.size w wr)
  case atStart => exact ⟨0, by omega, rfl, Below.refl _ _⟩
  case round =>
    rename World => wr
    obtain ⟨k, hk, rfl, hb⟩ := hrel
    have HB := Lib.hid hb
    by_cases hkn : k < n
    · have hkl : k < l.length := by rw [HN.out]; exact hkn
      have hki : (k : Int) < (n : Int) := by omega
      obtain ⟨b, o, rfl, hlt, hcs⟩ := HC.out (by omega)
      obtain ⟨b', o', rfl, hlt', hcs'⟩ := HD.out (by omega)
      have hc := (hb.cell (p := ⟨b, o + k, none⟩) hlt).trans (hcs k hkl)
      have hc' := (hb.cell (p := ⟨b', o' + k, none⟩) hlt').trans (hcs' k hkl)
      obtain ⟨x, hx⟩ : ∃ x, l[k] = x := ⟨_, rfl⟩
      rw [hx] at hc hc'
      have hne : (x != x) = false := by simp
      clear hb hx hkl hlt hlt' hcs hcs'
      go_wp2_with fail
      go_quiet (fail)
      go_wp2_with fail
      go_roundg (gk - 1)
      case rel => exact ⟨k + 1, by omega, by go_num, HB.out.trans ((byt.below_drewN _ _).mono HB.out.size)⟩
      case measure => omega
    · have hki : ¬ (k : Int) < (n : Int) := by omega
      clear hb hkn
      go_wp2_with fail
      try rw [Exit.noGoto_ret]
      go_ret
      exact ⟨rfl, HB.out⟩
set_option maxHeartbeats 1600000 in
set_option maxRecDepth 1000000 in
theorem jobs_same {w : World} {u v : Value} {l : List Nd} (par : Int) (hu : Nodes w u l) (hv : Nodes w v l) (hl : l.length ≤ 1000000) (hs : ∀ nd ∈ l, nd.ins.length ≤ 1000000 ∧ nd.x.size ≤ 1000000) :
    Calls Tryd.prog 14 #[.agg #[.int .i64 par, u], .agg #[.int .i64 par, v]] w fun e w' => e = .returned (.bool true) ∧ Below w.heap.size w w' := by
  obtain ⟨a, c, rfl, -, hcl⟩ := id hu
  obtain ⟨a', c', rfl, -, hcl'⟩ := id hv
  obtain ⟨n, hn⟩ : ∃ n, l.length = n := ⟨_, rfl⟩
  rw [hn] at hl ⊢
  obtain ⟨N, hN⟩ : ∃ N, w.heap.size = N := ⟨_, rfl⟩
  obtain ⟨W, hW⟩ : ∃ W, (w.alloc (.cells #[.int .i64 par, .slice a n c] 24)).alloc (.cells #[.int .i64 par, .slice a' n c'] 24) = W := ⟨_, rfl⟩
  have hwb : Below w.heap.size w W := by rw [← hW]; exact (below_made _ _).alloc (by simp) _
  have HZ : Hid (W.heap[N]? = some (.cells #[.int .i64 par, .slice a n c] 24 (0, 0))) := Lib.hid (by rw [← hW]; exact heap_old (heap_last hN.symm))
  have HZ' : Hid (W.heap[N + 1]? = some (.cells #[.int .i64 par, .slice a' n c'] 24 (0, 0))) := Lib.hid (by rw [← hW]; exact heap_last (by simp [hN]))
  have HWS : Hid (W.heap.size = N + 1 + 1) := Lib.hid (by rw [← hW, ← hN]; simp)
  have HB := Lib.hid hwb; have HLN := Lib.hid hn; have HCL := Lib.hid hcl; have HCL' := Lib.hid hcl'; have HSM := Lib.hid hs
  obtain ⟨c0, c1, -, -⟩ := cells2 HZ.out
  obtain ⟨d0, d1, -, -⟩ := cells2 HZ'.out
  have hpp : (par != par) = false := by simp
  have hnn : ((n : Int) != (n : Int)) = false := by simp
  clear hu hv hcl hcl' hwb hs hn
  go_enter Tryd.func14, Tryd.ntmps14
  go_wp2_with fail
  go_loopg [5] n (fun g v5 wr => ∃ k : Nat, k + g = n ∧ v5 = .int .i64 (k : Int) ∧ Below W.heap.size W wr)
  case atStart => exact ⟨0, by omega, rfl, Below.refl _ _⟩
  case round =>
    rename World => wr
    obtain ⟨k, hk, rfl, hb⟩ := hrel
    have HBR := Lib.hid hb
    obtain ⟨c0, c1, -, -⟩ := cells2 ((hb.block N (by rw [HWS.out]; omega)).trans HZ.out)
    obtain ⟨d0, d1, -, -⟩ := cells2 ((hb.block (N + 1) (by rw [HWS.out]; omega)).trans HZ'.out)
    by_cases hk' : k < n
    · have hkn : (k : Int) < (n : Int) := by omega
      have hkl : k < l.length := by rw [HLN.out]; exact hk'
      obtain ⟨b1, rfl, hat⟩ := HCL.out (by omega)
      obtain ⟨b2, rfl, hat'⟩ := HCL'.out (by omega)
      obtain ⟨hlt, vi, va, p0, p1, p2, p3, p4, p5, p6, hvi, hva⟩ := (hat k hkl).on (HB.out.trans (hb.mono HB.out.size))
      obtain ⟨hlt', vi', va', r0, r1, r2, r3, r4, r5, r6, hvi', hva'⟩ := (hat' k hkl).on (HB.out.trans (hb.mono HB.out.size))
      have hsx := HSM.out _ (List.getElem_mem hkl)
      obtain ⟨nd, hnd⟩ : ∃ nd, l[k] = nd := ⟨_, rfl⟩
      rw [hnd] at p0 p1 p3 p4 p6 hvi hva r0 r1 r3 r4 r6 hvi' hva' hsx
      obtain ⟨ai, ci, hvie, -⟩ := id hvi
      subst hvie
      obtain ⟨aa, ca, rfl, -⟩ := hva.form
      obtain ⟨ai', ci', hvie', -⟩ := id hvi'
      subst hvie'
      obtain ⟨aa', ca', rfl, -⟩ := hva'.form
      obtain ⟨ni, hni⟩ : ∃ m, nd.ins.length = m := ⟨_, rfl⟩
      obtain ⟨na, hna⟩ : ∃ m, nd.x.args.length = m := ⟨_, rfl⟩
      rw [hni] at p2 r2
      rw [hna] at p5 r5
      obtain ⟨W3, hW3⟩ : ∃ W3, wr.alloc (.cells #[.string nd.uid, .int .u8 (nd.kind : Int), .slice ai ni ci, .int .u8 (nd.x.op : Int), .int .i64 nd.x.n, .slice aa na ca, .int .i64 nd.n] 52) = W3 := ⟨_, rfl⟩
      have hwb3 : Below wr.heap.size wr W3 := by rw [← hW3]; exact below_made _ _
      obtain ⟨W4, hW4⟩ : ∃ W4, W3.alloc (.cells #[.string nd.uid, .int .u8 (nd.kind : Int), .slice ai' ni ci', .int .u8 (nd.x.op : Int), .int .i64 nd.x.n, .slice aa' na ca', .int .i64 nd.n] 52) = W4 := ⟨_, rfl⟩
      have hwb4 : Below W3.heap.size W3 W4 := by rw [← hW4]; exact below_made _ _
      have hb4 : Below wr.heap.size wr W4 := hwb3.trans (hwb4.mono hwb3.size)
      have hM : W3.heap.size = wr.heap.size + 1 := by rw [← hW3]; simp
      have HX1 : Hid (W4.heap[wr.heap.size]? = some (.cells #[.string nd.uid, .int .u8 (nd.kind : Int), .slice ai ni ci, .int .u8 (nd.x.op : Int), .int .i64 nd.x.n, .slice aa na ca, .int .i64 nd.n] 52 (0, 0))) := Lib.hid (by rw [← hW4, ← hW3]; exact heap_old (heap_last rfl))
      have HX2 : Hid (W4.heap[wr.heap.size + 1]? = some (.cells #[.string nd.uid, .int .u8 (nd.kind : Int), .slice ai' ni ci', .int .u8 (nd.x.op : Int), .int .i64 nd.x.n, .slice aa' na ca', .int .i64 nd.n] 52 (0, 0))) := Lib.hid (by rw [← hW4]; exact heap_last hM.symm)
      obtain ⟨f0, f1, f2, f3, f4, f5, f6, -⟩ := cells7 HX1.out
      obtain ⟨g0, g1, g2, g3, g4, g5, g6, -⟩ := cells7 HX2.out
      have hvi4 := hvi.on hb4
      have hvi4' := hvi'.on hb4
      have HI := Lib.hid (ints_same hvi4 hvi4' hsx.1)
      rw [hni] at HI
      have HRS : Hid (∀ w5, Below W4.heap.size W4 w5 → Calls Tryd.prog 32 #[exV nd.x (.slice aa na ca), exV nd.x (.slice aa' na ca')] w5 (SPost nd.x nd.x w5)) := Lib.hid (fun w5 h5 => by
        have e1 := (hva.under hb4).under h5
        have e2 := (hva'.under hb4).under h5
        rw [hna] at e1 e2
        exact rsame_any nd.x.size hsx.2 nd.x (Nat.le_refl _) nd.x _ _ _ _ w5 e1 e2)
      have HB4 : Hid (Below W.heap.size W W4) := Lib.hid (hb.trans (hb4.mono hb.size))
      have HW4 : Hid (wr.heap.size + 1 < W4.heap.size) := Lib.hid (by rw [← hW4, World.size_alloc]; omega)
      have s0 := cell_on r0 hwb3; have s1 := cell_on r1 hwb3; have s2 := cell_on r2 hwb3; have s3 := cell_on r3 hwb3; have s4 := cell_on r4 hwb3; have s5 := cell_on r5 hwb3; have s6 := cell_on r6 hwb3
      have d1' := cell_on d1 hwb3
      have huu : (nd.uid.toList == nd.uid.toList) = true := by simp
      have hkk : ((nd.kind : Int) != (nd.kind : Int)) = false := by simp
      have hnn2 : (nd.n != nd.n) = false := by simp
      have hp3a := HX1.out
      clear hb hlt hlt' hvi hva hvi' hva' hsx hnd hwb3 hwb4 hb4 hvi4 hvi4' hat hat' hkl hp3a
      go_upto_region 8 with fail
      go_wp2_with fail
      refine HI.out.mono ?_
      rintro e w5 ⟨rfl, hb5⟩
      have HB5 := Lib.hid hb5
      have HRS5 := Lib.hid (HRS.out w5 hb5)
      obtain ⟨f0, f1, f2, f3, f4, f5, f6, -⟩ := cells7 ((hb5.block _ (by have := HW4.out; omega)).trans HX1.out)
      obtain ⟨g0, g1, g2, g3, g4, g5, g6, -⟩ := cells7 ((hb5.block _ (by have := HW4.out; omega)).trans HX2.out)
      clear hb5
      unfold exV at HRS5
      go_wp2_with fail
      refine HRS5.out.mono ?_
      rintro e w6 ⟨r, rfl, hre, hb6⟩
      obtain rfl : r = true := hre.2 rfl
      have HB6 : Hid (Below W.heap.size W w6) := Lib.hid (HB4.out.trans ((HB5.out.trans (hb6.mono HB5.out.size)).mono HB4.out.size))
      clear hre hb6
      go_wp2_with fail
      go_roundg (gk - 1)
      case measure => omega
      case rel => exact ⟨k + 1, by omega, by go_num, HB6.out⟩
    · have hkn : ¬ (k : Int) < (n : Int) := by omega
      have HX := Lib.hid (HB.out.trans (hb.mono HB.out.size))
      clear hb
      go_wp2_with fail
      try rw [Exit.noGoto_ret]
      go_ret
      exact ⟨rfl, by rw [← hN]; exact HX.out⟩
end Go.Proofs.YtnelfokfgnikfaaDoor.pk

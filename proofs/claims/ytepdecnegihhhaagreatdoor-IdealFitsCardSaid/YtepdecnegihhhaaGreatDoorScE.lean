/- What told answers: of whatever words. -/
import Derived.Test.YtepdecnegihhhaaGreatDoorMSc
set_option linter.unusedSimpArgs false
set_option linter.unusedVariables false
namespace Go.Proofs.YtepdecnegihhhaaGreatDoor.sc
open Go.RowKit nam exp jb
theorem ToldAt.setN {w wr : World} {N k : Nat} {uid : ByteArray} {n n' : Int} {vi : Value} {done : List Int} (h : ToldAt w wr N uid k n vi done) : ToldAt w (wr.setCell ⟨N, 6, none⟩ (.int .i64 n')) N uid k n' vi done := by
 obtain ⟨a1, a2, a3, a4⟩ := h
 have hne : vi.ownBlock ≠ some N := by
  intro e
  rcases a2.2 with ⟨rfl, _⟩ | ⟨g, cap, cur, rfl, _, hg, _⟩
  · simp [Value.ownBlock] at e
  · simp [Value.ownBlock] at e
    subst e
    rw [a1] at hg
    cases hg
 exact ⟨setCell_heap a1, own_setCell a2 hne, a3.setCell (p := ⟨N, 6, none⟩) a4 _, a4⟩
theorem ToldAt.set {w wr : World} {N k j : Nat} {uid : ByteArray} {n : Int} {vi z : Value} {done : List Int} (h : ToldAt w wr N uid k n vi done) (hz : (ndCells uid k vi n).setIfInBounds j z = ndCells uid k vi n) : ToldAt w (wr.setCell ⟨N, j, none⟩ z) N uid k n vi done := by
 obtain ⟨a1, a2, a3, a4⟩ := h
 have hne : vi.ownBlock ≠ some N := by
  intro e
  rcases a2.2 with ⟨rfl, _⟩ | ⟨g, cap, cur, rfl, _, hg, _⟩
  · simp [Value.ownBlock] at e
  · simp [Value.ownBlock] at e
    subst e
    rw [a1] at hg
    cases hg
 exact ⟨by rw [setCell_heap a1, hz], own_setCell a2 hne, a3.setCell (p := ⟨N, j, none⟩) a4 _, a4⟩
theorem ToldAt.seven {w wr : World} {N k : Nat} {uid : ByteArray} {n : Int} {vi : Value} {done : List Int} (h : ToldAt w wr N uid k n vi done) :
  ToldAt w (((((((wr.setCell ⟨N, 0, none⟩ (.string uid)).setCell ⟨N, 1, none⟩ (.int .u8 (k : Int))).setCell ⟨N, 2, none⟩ vi).setCell ⟨N, 3, none⟩ (.int .u8 0)).setCell ⟨N, 4, none⟩ (.int .i64 0)).setCell ⟨N, 5, none⟩ (.slice none 0 0)).setCell ⟨N, 6, none⟩ (.int .i64 n)) N uid k n vi done :=
 ((((((h.set rfl).set rfl).set rfl).set rfl).set rfl).set rfl).set rfl
theorem ToldAt.mid {w w1 w2 : World} {N k : Nat} {uid : ByteArray} {n : Int} {vi : Value} {done : List Int} {o : Obj} (h : ToldAt w w1 N uid k n vi done) (g4 : (w1.alloc o).grownBy w2 vi.ownBlock) : w2.heap[N]? = some (.cells (ndCells uid k vi n) 48 (0, 0)) := by
 obtain ⟨a1, a2, a3, a4⟩ := h
 have hN := (Array.getElem?_eq_some_iff.1 a1).1
 have hne : vi.ownBlock ≠ some N := by
  intro e
  rcases a2.2 with ⟨rfl, _⟩ | ⟨g, cap, cur, rfl, _, hg, _⟩
  · simp [Value.ownBlock] at e
  · simp [Value.ownBlock] at e
    subst e
    rw [a1] at hg
    cases hg
 rw [g4.block N (by rw [World.size_alloc]; omega) (fun e => hne e.symm), Below.heap_alloc _ _ _ hN]
 exact a1
theorem told_start {w : World} {N : Nat} (hN : w.heap.size = N) (uid : ByteArray) (k : Nat) : ToldAt w (w.alloc (.cells #[.string uid, .int .u8 (k : Int), .slice none 0 0, .int .u8 0, .int .i64 0, .slice none 0 0, .int .i64 0] 48)) N uid k 0 (.slice none 0 0) [] := by
 subst hN
 exact ⟨heap_last rfl, World.ownsRow_nil _ _ _ _, below_made _ _, Nat.le_refl _⟩
set_option maxHeartbeats 3200000 in
set_option maxRecDepth 1000000 in
theorem told_any {w : World} {rb : Nat} {par : Int} {vn v : Value} {l : List Nd} {ws : List ByteArray} (hk : KTab w) (c0 : w.cell? ⟨rb, 0, none⟩ = some (.int .i64 par)) (c1 : w.cell? ⟨rb, 1, none⟩ = some vn) (hrb : rb < w.heap.size)
  (hn : Nodes w vn l) (hl : l.length ≤ 100000) (h : SRow w v ws) (hw : ws.length ≤ 1000) : Calls Tryz.prog 117 #[.pointer (some ⟨rb, 0, none⟩), v] w (ToldPost l ws w) := by
 have HS := Lib.hid h
 obtain ⟨i0, hi, hz0, hz1, hz2⟩ := info_parts info3
 obtain ⟨a, c, rfl, hc, h2⟩ := h
 have bx := fun (a b c d e f g : Value) => @box7 w _ a b c d e f g 48 rfl
 by_cases hsh : ws.length < 2
 · have HE : Hid (ToldPost l ws w (.returned (.tuple #[.agg (ndCells ⟨#[]⟩ 0 (.slice none 0 0) 0), .bool false])) (w.alloc (.cells #[.string ⟨#[]⟩, .int .u8 0, .slice none 0 0, .int .u8 0, .int .i64 0, .slice none 0 0, .int .i64 0] 48))) := Lib.hid (by
    unfold ToldPost
    rw [told_short hsh]
    exact ⟨_, rfl, World.ownsRow_nil _ _ _ _, below_made _ _⟩)
   have hsh' : (ws.length : Int) < 2 := by omega
   have HX := Lib.hid (bx (.string ⟨#[]⟩) (.int .u8 0) (.slice none 0 0) (.int .u8 0) (.int .i64 0) (.slice none 0 0) (.int .i64 0))
   clear h2 hk c0 c1 hn hsh bx hl HS
   obtain ⟨nw, hnw⟩ : ∃ nw, ws.length = nw := ⟨_, rfl⟩
   rw [hnw] at hc hw hsh' ⊢
   clear hnw
   go_enter Tryz.func117, Tryz.ntmps117
   go_wp2_with fail
   obtain ⟨d0, d1, d2, d3, d4, d5, d6⟩ := HX.out
   exact bodyPost_ret (v := .tuple #[.agg (ndCells ⟨#[]⟩ 0 (.slice none 0 0) 0), .bool false]) (by simp [results, Tryz.f117, go_sem, ndCells, d0, d1, d2, d3, d4, d5, d6]) rfl HE.out
 · obtain ⟨b, o, rfl, hlt, hcs⟩ := h2 (by omega)
   have hu0 := hcs 0 (by omega)
   have hu1 := hcs 1 (by omega)
   obtain ⟨u, hu⟩ : ∃ u, ws.getD 0 ⟨#[]⟩ = u := ⟨_, rfl⟩
   obtain ⟨kw, hkw⟩ : ∃ u, ws.getD 1 ⟨#[]⟩ = u := ⟨_, rfl⟩
   have e0 : ws[0]'(by omega) = u := by rw [← hu, List.getD_eq_getElem?_getD, List.getElem?_eq_getElem (by omega)]; rfl
   have e1 : ws[1]'(by omega) = kw := by rw [← hkw, List.getD_eq_getElem?_getD, List.getElem?_eq_getElem (by omega)]; rfl
   rw [e0, Nat.add_zero] at hu0
   rw [e1] at hu1
   have HKO : Hid (∀ o, Calls Tryz.prog 158 #[.string kw] (w.alloc o) fun e w' => e = .returned (.tuple #[.int .u8 (kindOfO kw : Int), .bool (kindOfO kw != 0)]) ∧ w' = w.alloc o) := Lib.hid (fun o => kindOf_any (hk.on (below_made w o)) kw)
   have hK10 := kindOf_lt kw
   have HF : Hid (∀ w' uid, Below w.heap.size w w' → Calls Tryz.prog 26 #[.agg #[.int .i64 par, vn], .string uid] w' fun e w'' => e = .returned (.int .i64 (findI l uid)) ∧ Below w'.heap.size w' w'') := Lib.hid (fun w' uid hb => find_job par uid (hn.on hb) (by omega))
   obtain ⟨K, hK⟩ : ∃ K, kindOfO kw = K := ⟨_, rfl⟩
   rw [hK] at HKO hK10
   have hKi : (K : Int) < 10 := by omega
   have HD := Lib.hid (HS.out.drop (k := 2) (by omega))
   have HBM : Hid (∀ o, Below w.heap.size w (w.alloc o)) := Lib.hid (fun o => below_made w o)
   have HCR := Lib.hid (And.intro hrb (And.intro c0 c1))
   obtain ⟨us, hus⟩ : ∃ us, ws.drop 2 = us := ⟨_, rfl⟩
   have hul : us.length = ws.length - 2 := by rw [← hus, List.length_drop]
   rw [hus] at HD
   have HTF : Hid (toldF l ws = (⟨u, K, insO l (restF ws).1, Ex.zero, ((restF ws).2.1 : Int)⟩, (restF ws).2.2 && allB l (restF ws).1)) := Lib.hid (by
    unfold toldF; rw [if_neg hsh, hu, hkw, hK])
   have HRF : Hid (restF ws = if hasN K then cutF us else (us, 0, K != 0)) := Lib.hid (by unfold restF; rw [hkw, hK, hus])
   obtain ⟨nw, hnw⟩ : ∃ nw, ws.length = nw := ⟨_, rfl⟩
   rw [hnw] at hul hw hc HS hsh HD ⊢
   obtain ⟨nU, rfl⟩ : ∃ nU, nw = nU + 2 := ⟨nw - 2, by omega⟩
   rw [show nU + 2 - 2 = nU by omega] at hul HD
   have hs1 : ¬ ((nU + 2 : Nat) : Int) < 2 := by omega
   have hc2 : ((nU + 2 : Nat) : Int) ≤ (c : Int) := by omega
   have hbx := bx (.string u) (.int .u8 0) (.slice none 0 0) (.int .u8 0) (.int .i64 0) (.slice none 0 0) (.int .i64 0)
   have hbx2 := bx (.string u) (.int .u8 (K : Int)) (.slice none 0 0) (.int .u8 0) (.int .i64 0) (.slice none 0 0) (.int .i64 0)
   have hts := told_start (w := w) rfl u K
   obtain ⟨r0, r1, r2⟩ := (hk.on (below_made w (.cells #[.string u, .int .u8 (K : Int), .slice none 0 0, .int .u8 0, .int .i64 0, .slice none 0 0, .int .i64 0] 48))).row (k := K) hK10
   have HUL := Lib.hid hul
   have h00 : c = 2 → us = [] := fun h => List.eq_nil_of_length_eq_zero (by omega)
   have hnU : nU ≤ 1000 := by omega
   clear hul hK hsh
   clear h2 hcs bx hk hnw hu hkw e0 e1 hus hn hrb c0 c1 hc hw
   obtain ⟨d0, d1, d2, d3, d4, d5, d6⟩ := hbx2
   have HTS := Lib.hid hts
   clear hts hbx
   by_cases hcc2 : c = 2
   · have HDX : Hid (SRow w (.slice (some ⟨b, o, none⟩) nU 0) us) := Lib.hid (by
      have h0 : us = [] := h00 hcc2
      have hz : nU = 0 := by rw [← HUL.out, h0]; rfl
      exact ⟨_, 0, by rw [h0, hz]; rfl, by rw [h0]; simp, fun h => by rw [h0] at h; simp at h⟩)
     have HZ : Hid (nU = 0 ∧ us = []) := Lib.hid (by
      have h0 : us = [] := h00 hcc2
      exact ⟨by rw [← HUL.out, h0]; rfl, h0⟩)
     clear HD HS h00
     by_cases hK0 : K = 0
     · subst hK0
       have HRF' : Hid (restF ws = (us, 0, false)) := Lib.hid (by rw [HRF.out]; rfl)
       clear HRF
       go_enter Tryz.func117, Tryz.ntmps117
       go_wp2_with fail
       refine (HKO.out _).mono ?_
       rintro e w1 ⟨rfl, rfl⟩
       go_wp2_with fail
       go_loopg [5, 45] nU (fun g v5 v45 wr => ∃ (j : Nat) (vi : Value), j + g = nU ∧ v45 = .int .i64 (j : Int) ∧ v5 = .bool (false && allB l (us.take j)) ∧ ToldAt w wr w.heap.size u 0 0 vi (insO l (us.take j)))
       case atStart => exact ⟨0, _, by omega, rfl, rfl, HTS.out⟩
       case round =>
        obtain ⟨j, vi, hj, rfl, rfl, hT⟩ := hrel
        have HT := Lib.hid hT; clear hT
        by_cases hjn : j < nU
        · exact absurd (show nU = 0 from HZ.out.1) (by omega)
        · have hji : ¬ (j : Int) < (nU : Int) := by omega
          have hjt : us.take j = us := List.take_of_length_le (by rw [HUL.out]; omega)
          rw [hjt] at HT ⊢
          obtain ⟨av, cv, rfl, -, -⟩ := own_slice HT.out.2.1
          have HL := Lib.hid (show (insO l us).length = nU by unfold insO; rw [List.length_map, HUL.out])
          obtain ⟨t0, t1, t2, t3, t4, t5, t6, tf⟩ := HT.out.cells
          have tf0 := tf 0; have tf1 := tf 1; have tf2 := tf 2; have tf3 := tf 3; have tf4 := tf 4; have tf5 := tf 5; have tf6 := tf 6
          clear tf
          have HZ7 := Lib.hid (HT.out.seven)
          go_wp2_with fail
          obtain ⟨WF, hWF⟩ : ∃ WF, (((((((wr.setCell ⟨w.heap.size, 0, none⟩ (.string u)).setCell ⟨w.heap.size, 1, none⟩ (.int .u8 0)).setCell ⟨w.heap.size, 2, none⟩ (.slice av (insO l us).length cv)).setCell ⟨w.heap.size, 3, none⟩ (.int .u8 0)).setCell ⟨w.heap.size, 4, none⟩ (.int .i64 0)).setCell ⟨w.heap.size, 5, none⟩ (.slice none 0 0)).setCell ⟨w.heap.size, 6, none⟩ (.int .i64 0)) = WF := ⟨_, rfl⟩
          have HZ8 : Hid (ToldAt w WF w.heap.size u 0 0 (.slice av (insO l us).length cv) (insO l us)) := Lib.hid (by rw [← hWF]; exact HZ7.out)
          rw [hWF]
          clear hWF
          obtain ⟨z0, z1, z2, z3, z4, z5, z6, -⟩ := HZ8.out.cells
          exact bodyPost_ret (v := .tuple #[.agg (ndCells u 0 (.slice av (insO l us).length cv) 0), .bool false]) (by simp [results, Tryz.f117, go_sem, ndCells, z0, z1, z2, z3, z4, z5, z6]) rfl (by
           unfold ToldPost
           rw [HTF.out, HRF'.out]
           exact ⟨_, rfl, HZ8.out.2.1, HZ8.out.2.2.1⟩)
     · cases hN : hasN K with
       | false =>
        have hKne : (K != 0) = true := by simp [hK0]
        rw [hKne] at HKO
        rw [hN] at r1
        have HRF' : Hid (restF ws = (us, 0, true)) := Lib.hid (by rw [HRF.out, hN, hKne]; rfl)
        clear HRF
        go_enter Tryz.func117, Tryz.ntmps117
        go_wp2_with fail
        refine (HKO.out _).mono ?_
        rintro e w1 ⟨rfl, rfl⟩
        go_wp2_with fail
        go_loopg [5, 45] nU (fun g v5 v45 wr => ∃ (j : Nat) (vi : Value), j + g = nU ∧ v45 = .int .i64 (j : Int) ∧ v5 = .bool (true && allB l (us.take j)) ∧ ToldAt w wr w.heap.size u K 0 vi (insO l (us.take j)))
        case atStart => exact ⟨0, _, by omega, rfl, rfl, HTS.out⟩
        case round =>
         obtain ⟨j, vi, hj, rfl, rfl, hT⟩ := hrel
         have HT := Lib.hid hT; clear hT
         by_cases hjn : j < nU
         · exact absurd (show nU = 0 from HZ.out.1) (by omega)
         · have hji : ¬ (j : Int) < (nU : Int) := by omega
           have hjt : us.take j = us := List.take_of_length_le (by rw [HUL.out]; omega)
           rw [hjt] at HT ⊢
           obtain ⟨av, cv, rfl, -, -⟩ := own_slice HT.out.2.1
           have HL := Lib.hid (show (insO l us).length = nU by unfold insO; rw [List.length_map, HUL.out])
           obtain ⟨t0, t1, t2, t3, t4, t5, t6, tf⟩ := HT.out.cells
           have tf0 := tf 0; have tf1 := tf 1; have tf2 := tf 2; have tf3 := tf 3; have tf4 := tf 4; have tf5 := tf 5; have tf6 := tf 6
           clear tf
           have HZ7 := Lib.hid (HT.out.seven)
           go_wp2_with fail
           obtain ⟨WF, hWF⟩ : ∃ WF, (((((((wr.setCell ⟨w.heap.size, 0, none⟩ (.string u)).setCell ⟨w.heap.size, 1, none⟩ (.int .u8 (K : Int))).setCell ⟨w.heap.size, 2, none⟩ (.slice av (insO l us).length cv)).setCell ⟨w.heap.size, 3, none⟩ (.int .u8 0)).setCell ⟨w.heap.size, 4, none⟩ (.int .i64 0)).setCell ⟨w.heap.size, 5, none⟩ (.slice none 0 0)).setCell ⟨w.heap.size, 6, none⟩ (.int .i64 0)) = WF := ⟨_, rfl⟩
           have HZ8 : Hid (ToldAt w WF w.heap.size u K 0 (.slice av (insO l us).length cv) (insO l us)) := Lib.hid (by rw [← hWF]; exact HZ7.out)
           rw [hWF]
           clear hWF
           obtain ⟨z0, z1, z2, z3, z4, z5, z6, -⟩ := HZ8.out.cells
           exact bodyPost_ret (v := .tuple #[.agg (ndCells u K (.slice av (insO l us).length cv) 0), .bool (allB l us)]) (by simp [results, Tryz.f117, go_sem, ndCells, z0, z1, z2, z3, z4, z5, z6]) rfl (by
            unfold ToldPost
            rw [HTF.out, HRF'.out]
            exact ⟨_, rfl, HZ8.out.2.1, HZ8.out.2.2.1⟩)
       | true =>
        have hKne : (K != 0) = true := by simp [hK0]
        rw [hKne] at HKO
        rw [hN] at r1
        have HRF' : Hid (restF ws = cutF us) := Lib.hid (by rw [HRF.out, hN]; rfl)
        clear HRF
        have HCN := Lib.hid (cutNumber_any HDX.out (below_made w (.cells #[.string u, .int .u8 (K : Int), .slice none 0 0, .int .u8 0, .int .i64 0, .slice none 0 0, .int .i64 0] 48)) (by rw [HUL.out]; exact hnU))
        unfold CutPost at HCN
        have HVL : Hid ((cutF us).1.length ≤ 1000 ∧ (cutF us).1.length = 0) := Lib.hid (by rw [HZ.out.2]; exact ⟨by unfold cutF; simp, by unfold cutF; simp⟩)
        obtain ⟨vs, hvs⟩ : ∃ vs, (cutF us).1 = vs := ⟨_, rfl⟩
        obtain ⟨q, hq⟩ : ∃ q, (cutF us).2.1 = q := ⟨_, rfl⟩
        obtain ⟨k1, hk1⟩ : ∃ q, (cutF us).2.2 = q := ⟨_, rfl⟩
        rw [hvs] at HVL HCN
        rw [hq, hk1] at HCN
        have HRF2 : Hid (cutF us = (vs, q, k1)) := Lib.hid (by rw [← hvs, ← hq, ← hk1])
        clear hvs hq hk1
        obtain ⟨nV, hnV⟩ : ∃ n, vs.length = n := ⟨_, rfl⟩
        have HVS := Lib.hid hnV
        rw [hnV] at HVL
        clear hnV
        have hnV := HVL.out.1
        go_enter Tryz.func117, Tryz.ntmps117
        go_wp2_with fail
        refine (HKO.out _).mono ?_
        rintro e w1 ⟨rfl, rfl⟩
        go_wp2_with fail
        refine HCN.out.mono ?_
        rintro e w2 ⟨ad, cc, rfl, hsr, hb2⟩
        have HDX2 := Lib.hid hsr
        have HTS2 := Lib.hid ((HTS.out.under hb2).setN (n' := (q : Int)))
        obtain ⟨x0, x1, x2, x3, x4, x5, x6, xf⟩ := (HTS.out.under hb2).cells
        have xf6 := xf 6
        clear hsr hb2 xf HDX
        rw [HVS.out] at HDX2 ⊢
        go_wp2_with fail
        go_loopg [5, 45] nV (fun g v5 v45 wr => ∃ (j : Nat) (vi : Value), j + g = nV ∧ v45 = .int .i64 (j : Int) ∧ v5 = .bool (k1 && allB l (vs.take j)) ∧ ToldAt w wr w.heap.size u K (q : Int) vi (insO l (vs.take j)))
        case atStart => exact ⟨0, _, by omega, rfl, by simp [allB], HTS2.out⟩
        case round =>
         obtain ⟨j, vi, hj, rfl, rfl, hT⟩ := hrel
         have HT := Lib.hid hT; clear hT
         by_cases hjn : j < nV
         · exact absurd (show nV = 0 from HVL.out.2) (by omega)
         · have hji : ¬ (j : Int) < (nV : Int) := by omega
           have hjt : vs.take j = vs := List.take_of_length_le (by rw [HVS.out]; omega)
           rw [hjt] at HT ⊢
           obtain ⟨av, cv, rfl, -, -⟩ := own_slice HT.out.2.1
           have HL := Lib.hid (show (insO l vs).length = nV by unfold insO; rw [List.length_map, HVS.out])
           obtain ⟨t0, t1, t2, t3, t4, t5, t6, tf⟩ := HT.out.cells
           have tf0 := tf 0; have tf1 := tf 1; have tf2 := tf 2; have tf3 := tf 3; have tf4 := tf 4; have tf5 := tf 5; have tf6 := tf 6
           clear tf
           have HZ7 := Lib.hid (HT.out.seven)
           go_wp2_with fail
           obtain ⟨WF, hWF⟩ : ∃ WF, (((((((wr.setCell ⟨w.heap.size, 0, none⟩ (.string u)).setCell ⟨w.heap.size, 1, none⟩ (.int .u8 (K : Int))).setCell ⟨w.heap.size, 2, none⟩ (.slice av (insO l vs).length cv)).setCell ⟨w.heap.size, 3, none⟩ (.int .u8 0)).setCell ⟨w.heap.size, 4, none⟩ (.int .i64 0)).setCell ⟨w.heap.size, 5, none⟩ (.slice none 0 0)).setCell ⟨w.heap.size, 6, none⟩ (.int .i64 (q : Int))) = WF := ⟨_, rfl⟩
           have HZ8 : Hid (ToldAt w WF w.heap.size u K (q : Int) (.slice av (insO l vs).length cv) (insO l vs)) := Lib.hid (by rw [← hWF]; exact HZ7.out)
           rw [hWF]
           clear hWF
           obtain ⟨z0, z1, z2, z3, z4, z5, z6, -⟩ := HZ8.out.cells
           exact bodyPost_ret (v := .tuple #[.agg (ndCells u K (.slice av (insO l vs).length cv) (q : Int)), .bool (k1 && allB l vs)]) (by simp [results, Tryz.f117, go_sem, ndCells, z0, z1, z2, z3, z4, z5, z6]) rfl (by
            unfold ToldPost
            rw [HTF.out, HRF'.out, HRF2.out]
            exact ⟨_, rfl, HZ8.out.2.1, HZ8.out.2.2.1⟩)
   · have HDX : Hid (SRow w (.slice (some ⟨b, o + 2, none⟩) nU (c - 2)) us) := Lib.hid (HD.out)
     clear HD HS h00
     by_cases hK0 : K = 0
     · subst hK0
       have HRF' : Hid (restF ws = (us, 0, false)) := Lib.hid (by rw [HRF.out]; rfl)
       clear HRF
       go_enter Tryz.func117, Tryz.ntmps117
       go_wp2_with fail
       refine (HKO.out _).mono ?_
       rintro e w1 ⟨rfl, rfl⟩
       go_wp2_with fail
       go_loopg [5, 45] nU (fun g v5 v45 wr => ∃ (j : Nat) (vi : Value), j + g = nU ∧ v45 = .int .i64 (j : Int) ∧ v5 = .bool (false && allB l (us.take j)) ∧ ToldAt w wr w.heap.size u 0 0 vi (insO l (us.take j)))
       case atStart => exact ⟨0, _, by omega, rfl, rfl, HTS.out⟩
       case round =>
        obtain ⟨j, vi, hj, rfl, rfl, hT⟩ := hrel
        have HT := Lib.hid hT; clear hT
        by_cases hjn : j < nU
        · have hji : (j : Int) < (nU : Int) := by omega
          have hjl : j < us.length := by rw [HUL.out]; exact hjn
          obtain ⟨a2, ca2, hae, -, hcc⟩ := HDX.out.on HT.out.2.2.1
          obtain ⟨b2, o2, hab, hb2, hcx⟩ := hcc (by omega)
          simp only [Value.slice.injEq] at hae
          obtain ⟨ha1, -, -⟩ := hae
          rw [hab] at ha1
          simp only [Option.some.injEq, Addr.mk.injEq, and_true] at ha1
          obtain ⟨rfl, rfl⟩ := ha1
          have hcy := hcx j hjl
          clear hcx
          have HA := Lib.hid (insO_snoc l us j hjl)
          have HAB := Lib.hid (allB_snoc l us j hjl)
          obtain ⟨uj, huj⟩ : ∃ x, us[j] = x := ⟨_, rfl⟩
          rw [huj] at hcy HA HAB
          obtain ⟨f, hf⟩ : ∃ f, findI l uj = f := ⟨_, rfl⟩
          have HF1 := Lib.hid (HF.out wr uj HT.out.2.2.1)
          rw [hf] at HF1 HA HAB
          have p0 := (HT.out.2.2.1.cell (p := ⟨rb, 0, none⟩) HCR.out.1).trans HCR.out.2.1
          have p1 := (HT.out.2.2.1.cell (p := ⟨rb, 1, none⟩) HCR.out.1).trans HCR.out.2.2
          obtain ⟨q, hq⟩ : ∃ q, (false && allB l (us.take j)) = q := ⟨_, rfl⟩
          have HQ : Hid ((false && allB l (us.take (j + 1))) = (q && decide (0 ≤ f))) := Lib.hid (by rw [HAB.out, ← Bool.and_assoc, hq])
          rw [hq]
          have hdl : (insO l (us.take j)).length ≤ 1000 := by unfold insO; rw [List.length_map, List.length_take, HUL.out]; omega
          clear huj hf hq hjn hjl hcc hab hb2
          generalize hdone : insO l (us.take j) = done at HT HA hdl
          clear hdone
          have HSZ : Hid (∀ w1 o, Below wr.heap.size wr w1 → w.heap.size ≤ (w1.alloc o).heap.size) := Lib.hid (fun w1 o hb => by rw [World.size_alloc]; have := HT.out.2.2.1.size; have := hb.size; omega)
          cases q with
          | false =>
           go_wp2_with fail
           refine HF1.out.mono ?_
           rintro e w1 ⟨rfl, hb1⟩
           have HT1 := Lib.hid (HT.out.under hb1)
           obtain ⟨t0, t1, t2, t3, t4, t5, t6, tf⟩ := HT1.out.cells
           have tf2 := tf 2
           have HSZ1 := Lib.hid (fun o => HSZ.out w1 o hb1)
           have HB1 := Lib.hid hb1
           clear hb1 tf t0 t1 t3 t4 t5 t6
           go_wp2_with (at_builtin; refine wpList_append_own _ rfl (.tmp 61) (.tmp 63) 43 rfl w.heap.size 3 i0 (.int .i64 0) 1 8 Tryz.underlying43 hi hz0 hz1 hz2 rfl (by decide) _ _ _ rfl (HT1.out.2.1.alloc _) ⟨_, 0, none⟩ 1 1 [.int .i64 f] rfl rfl (cell_one_new _ _ _) (by simp [Value.oneCell']) (by unfold maxLen; omega) (by omega) (HSZ1.out _) ?_)
           intro v' w2 k4 g4 _
           have HM := Lib.hid (HT.out.more HB1.out k4 g4)
           have hm := HT1.out.mid g4
           obtain ⟨a4, c4, rfl, -, -⟩ := own_slice k4
           have q2 : w2.cell? ⟨w.heap.size, 2, none⟩ = some vi := cell_of hm rfl
           have qf : w2.frozen? ⟨w.heap.size, 2, none⟩ = false := by simp [World.frozen?, hm]
           clear k4 g4 hm
           go_wp2
           go_roundg (gk - 1)
           case rel => exact ⟨j + 1, _, by omega, by go_num, by rw [HQ.out]; simp, by rw [HA.out]; exact HM.out⟩
           case measure => omega
          | true =>
           go_wp2_with fail
           refine HF1.out.mono ?_
           rintro e w1 ⟨rfl, hb1⟩
           have HT1 := Lib.hid (HT.out.under hb1)
           obtain ⟨t0, t1, t2, t3, t4, t5, t6, tf⟩ := HT1.out.cells
           have tf2 := tf 2
           have HSZ1 := Lib.hid (fun o => HSZ.out w1 o hb1)
           have HB1 := Lib.hid hb1
           clear hb1 tf t0 t1 t3 t4 t5 t6
           go_wp2_with (at_builtin; refine wpList_append_own _ rfl (.tmp 61) (.tmp 63) 43 rfl w.heap.size 3 i0 (.int .i64 0) 1 8 Tryz.underlying43 hi hz0 hz1 hz2 rfl (by decide) _ _ _ rfl (HT1.out.2.1.alloc _) ⟨_, 0, none⟩ 1 1 [.int .i64 f] rfl rfl (cell_one_new _ _ _) (by simp [Value.oneCell']) (by unfold maxLen; omega) (by omega) (HSZ1.out _) ?_)
           intro v' w2 k4 g4 _
           have HM := Lib.hid (HT.out.more HB1.out k4 g4)
           have hm := HT1.out.mid g4
           obtain ⟨a4, c4, rfl, -, -⟩ := own_slice k4
           have q2 : w2.cell? ⟨w.heap.size, 2, none⟩ = some vi := cell_of hm rfl
           have qf : w2.frozen? ⟨w.heap.size, 2, none⟩ = false := by simp [World.frozen?, hm]
           clear k4 g4 hm
           go_wp2
           go_roundg (gk - 1)
           case rel => exact ⟨j + 1, _, by omega, by go_num, by rw [HQ.out]; simp, by rw [HA.out]; exact HM.out⟩
           case measure => omega
        · have hji : ¬ (j : Int) < (nU : Int) := by omega
          have hjt : us.take j = us := List.take_of_length_le (by rw [HUL.out]; omega)
          rw [hjt] at HT ⊢
          obtain ⟨av, cv, rfl, -, -⟩ := own_slice HT.out.2.1
          have HL := Lib.hid (show (insO l us).length = nU by unfold insO; rw [List.length_map, HUL.out])
          obtain ⟨t0, t1, t2, t3, t4, t5, t6, tf⟩ := HT.out.cells
          have tf0 := tf 0; have tf1 := tf 1; have tf2 := tf 2; have tf3 := tf 3; have tf4 := tf 4; have tf5 := tf 5; have tf6 := tf 6
          clear tf
          have HZ7 := Lib.hid (HT.out.seven)
          go_wp2_with fail
          obtain ⟨WF, hWF⟩ : ∃ WF, (((((((wr.setCell ⟨w.heap.size, 0, none⟩ (.string u)).setCell ⟨w.heap.size, 1, none⟩ (.int .u8 0)).setCell ⟨w.heap.size, 2, none⟩ (.slice av (insO l us).length cv)).setCell ⟨w.heap.size, 3, none⟩ (.int .u8 0)).setCell ⟨w.heap.size, 4, none⟩ (.int .i64 0)).setCell ⟨w.heap.size, 5, none⟩ (.slice none 0 0)).setCell ⟨w.heap.size, 6, none⟩ (.int .i64 0)) = WF := ⟨_, rfl⟩
          have HZ8 : Hid (ToldAt w WF w.heap.size u 0 0 (.slice av (insO l us).length cv) (insO l us)) := Lib.hid (by rw [← hWF]; exact HZ7.out)
          rw [hWF]
          clear hWF
          obtain ⟨z0, z1, z2, z3, z4, z5, z6, -⟩ := HZ8.out.cells
          exact bodyPost_ret (v := .tuple #[.agg (ndCells u 0 (.slice av (insO l us).length cv) 0), .bool false]) (by simp [results, Tryz.f117, go_sem, ndCells, z0, z1, z2, z3, z4, z5, z6]) rfl (by
           unfold ToldPost
           rw [HTF.out, HRF'.out]
           exact ⟨_, rfl, HZ8.out.2.1, HZ8.out.2.2.1⟩)
     · cases hN : hasN K with
       | false =>
        have hKne : (K != 0) = true := by simp [hK0]
        rw [hKne] at HKO
        rw [hN] at r1
        have HRF' : Hid (restF ws = (us, 0, true)) := Lib.hid (by rw [HRF.out, hN, hKne]; rfl)
        clear HRF
        go_enter Tryz.func117, Tryz.ntmps117
        go_wp2_with fail
        refine (HKO.out _).mono ?_
        rintro e w1 ⟨rfl, rfl⟩
        go_wp2_with fail
        go_loopg [5, 45] nU (fun g v5 v45 wr => ∃ (j : Nat) (vi : Value), j + g = nU ∧ v45 = .int .i64 (j : Int) ∧ v5 = .bool (true && allB l (us.take j)) ∧ ToldAt w wr w.heap.size u K 0 vi (insO l (us.take j)))
        case atStart => exact ⟨0, _, by omega, rfl, rfl, HTS.out⟩
        case round =>
         obtain ⟨j, vi, hj, rfl, rfl, hT⟩ := hrel
         have HT := Lib.hid hT; clear hT
         by_cases hjn : j < nU
         · have hji : (j : Int) < (nU : Int) := by omega
           have hjl : j < us.length := by rw [HUL.out]; exact hjn
           obtain ⟨a2, ca2, hae, -, hcc⟩ := HDX.out.on HT.out.2.2.1
           obtain ⟨b2, o2, hab, hb2, hcx⟩ := hcc (by omega)
           simp only [Value.slice.injEq] at hae
           obtain ⟨ha1, -, -⟩ := hae
           rw [hab] at ha1
           simp only [Option.some.injEq, Addr.mk.injEq, and_true] at ha1
           obtain ⟨rfl, rfl⟩ := ha1
           have hcy := hcx j hjl
           clear hcx
           have HA := Lib.hid (insO_snoc l us j hjl)
           have HAB := Lib.hid (allB_snoc l us j hjl)
           obtain ⟨uj, huj⟩ : ∃ x, us[j] = x := ⟨_, rfl⟩
           rw [huj] at hcy HA HAB
           obtain ⟨f, hf⟩ : ∃ f, findI l uj = f := ⟨_, rfl⟩
           have HF1 := Lib.hid (HF.out wr uj HT.out.2.2.1)
           rw [hf] at HF1 HA HAB
           have p0 := (HT.out.2.2.1.cell (p := ⟨rb, 0, none⟩) HCR.out.1).trans HCR.out.2.1
           have p1 := (HT.out.2.2.1.cell (p := ⟨rb, 1, none⟩) HCR.out.1).trans HCR.out.2.2
           obtain ⟨q, hq⟩ : ∃ q, (true && allB l (us.take j)) = q := ⟨_, rfl⟩
           have HQ : Hid ((true && allB l (us.take (j + 1))) = (q && decide (0 ≤ f))) := Lib.hid (by rw [HAB.out, ← Bool.and_assoc, hq])
           rw [hq]
           have hdl : (insO l (us.take j)).length ≤ 1000 := by unfold insO; rw [List.length_map, List.length_take, HUL.out]; omega
           clear huj hf hq hjn hjl hcc hab hb2
           generalize hdone : insO l (us.take j) = done at HT HA hdl
           clear hdone
           have HSZ : Hid (∀ w1 o, Below wr.heap.size wr w1 → w.heap.size ≤ (w1.alloc o).heap.size) := Lib.hid (fun w1 o hb => by rw [World.size_alloc]; have := HT.out.2.2.1.size; have := hb.size; omega)
           cases q with
           | false =>
            go_wp2_with fail
            refine HF1.out.mono ?_
            rintro e w1 ⟨rfl, hb1⟩
            have HT1 := Lib.hid (HT.out.under hb1)
            obtain ⟨t0, t1, t2, t3, t4, t5, t6, tf⟩ := HT1.out.cells
            have tf2 := tf 2
            have HSZ1 := Lib.hid (fun o => HSZ.out w1 o hb1)
            have HB1 := Lib.hid hb1
            clear hb1 tf t0 t1 t3 t4 t5 t6
            go_wp2_with (at_builtin; refine wpList_append_own _ rfl (.tmp 61) (.tmp 63) 43 rfl w.heap.size 3 i0 (.int .i64 0) 1 8 Tryz.underlying43 hi hz0 hz1 hz2 rfl (by decide) _ _ _ rfl (HT1.out.2.1.alloc _) ⟨_, 0, none⟩ 1 1 [.int .i64 f] rfl rfl (cell_one_new _ _ _) (by simp [Value.oneCell']) (by unfold maxLen; omega) (by omega) (HSZ1.out _) ?_)
            intro v' w2 k4 g4 _
            have HM := Lib.hid (HT.out.more HB1.out k4 g4)
            have hm := HT1.out.mid g4
            obtain ⟨a4, c4, rfl, -, -⟩ := own_slice k4
            have q2 : w2.cell? ⟨w.heap.size, 2, none⟩ = some vi := cell_of hm rfl
            have qf : w2.frozen? ⟨w.heap.size, 2, none⟩ = false := by simp [World.frozen?, hm]
            clear k4 g4 hm
            go_wp2
            go_roundg (gk - 1)
            case rel => exact ⟨j + 1, _, by omega, by go_num, by rw [HQ.out]; simp, by rw [HA.out]; exact HM.out⟩
            case measure => omega
           | true =>
            go_wp2_with fail
            refine HF1.out.mono ?_
            rintro e w1 ⟨rfl, hb1⟩
            have HT1 := Lib.hid (HT.out.under hb1)
            obtain ⟨t0, t1, t2, t3, t4, t5, t6, tf⟩ := HT1.out.cells
            have tf2 := tf 2
            have HSZ1 := Lib.hid (fun o => HSZ.out w1 o hb1)
            have HB1 := Lib.hid hb1
            clear hb1 tf t0 t1 t3 t4 t5 t6
            go_wp2_with (at_builtin; refine wpList_append_own _ rfl (.tmp 61) (.tmp 63) 43 rfl w.heap.size 3 i0 (.int .i64 0) 1 8 Tryz.underlying43 hi hz0 hz1 hz2 rfl (by decide) _ _ _ rfl (HT1.out.2.1.alloc _) ⟨_, 0, none⟩ 1 1 [.int .i64 f] rfl rfl (cell_one_new _ _ _) (by simp [Value.oneCell']) (by unfold maxLen; omega) (by omega) (HSZ1.out _) ?_)
            intro v' w2 k4 g4 _
            have HM := Lib.hid (HT.out.more HB1.out k4 g4)
            have hm := HT1.out.mid g4
            obtain ⟨a4, c4, rfl, -, -⟩ := own_slice k4
            have q2 : w2.cell? ⟨w.heap.size, 2, none⟩ = some vi := cell_of hm rfl
            have qf : w2.frozen? ⟨w.heap.size, 2, none⟩ = false := by simp [World.frozen?, hm]
            clear k4 g4 hm
            go_wp2
            go_roundg (gk - 1)
            case rel => exact ⟨j + 1, _, by omega, by go_num, by rw [HQ.out]; simp, by rw [HA.out]; exact HM.out⟩
            case measure => omega
         · have hji : ¬ (j : Int) < (nU : Int) := by omega
           have hjt : us.take j = us := List.take_of_length_le (by rw [HUL.out]; omega)
           rw [hjt] at HT ⊢
           obtain ⟨av, cv, rfl, -, -⟩ := own_slice HT.out.2.1
           have HL := Lib.hid (show (insO l us).length = nU by unfold insO; rw [List.length_map, HUL.out])
           obtain ⟨t0, t1, t2, t3, t4, t5, t6, tf⟩ := HT.out.cells
           have tf0 := tf 0; have tf1 := tf 1; have tf2 := tf 2; have tf3 := tf 3; have tf4 := tf 4; have tf5 := tf 5; have tf6 := tf 6
           clear tf
           have HZ7 := Lib.hid (HT.out.seven)
           go_wp2_with fail
           obtain ⟨WF, hWF⟩ : ∃ WF, (((((((wr.setCell ⟨w.heap.size, 0, none⟩ (.string u)).setCell ⟨w.heap.size, 1, none⟩ (.int .u8 (K : Int))).setCell ⟨w.heap.size, 2, none⟩ (.slice av (insO l us).length cv)).setCell ⟨w.heap.size, 3, none⟩ (.int .u8 0)).setCell ⟨w.heap.size, 4, none⟩ (.int .i64 0)).setCell ⟨w.heap.size, 5, none⟩ (.slice none 0 0)).setCell ⟨w.heap.size, 6, none⟩ (.int .i64 0)) = WF := ⟨_, rfl⟩
           have HZ8 : Hid (ToldAt w WF w.heap.size u K 0 (.slice av (insO l us).length cv) (insO l us)) := Lib.hid (by rw [← hWF]; exact HZ7.out)
           rw [hWF]
           clear hWF
           obtain ⟨z0, z1, z2, z3, z4, z5, z6, -⟩ := HZ8.out.cells
           exact bodyPost_ret (v := .tuple #[.agg (ndCells u K (.slice av (insO l us).length cv) 0), .bool (allB l us)]) (by simp [results, Tryz.f117, go_sem, ndCells, z0, z1, z2, z3, z4, z5, z6]) rfl (by
            unfold ToldPost
            rw [HTF.out, HRF'.out]
            exact ⟨_, rfl, HZ8.out.2.1, HZ8.out.2.2.1⟩)
       | true =>
        have hKne : (K != 0) = true := by simp [hK0]
        rw [hKne] at HKO
        rw [hN] at r1
        have HRF' : Hid (restF ws = cutF us) := Lib.hid (by rw [HRF.out, hN]; rfl)
        clear HRF
        have HCN := Lib.hid (cutNumber_any HDX.out (below_made w (.cells #[.string u, .int .u8 (K : Int), .slice none 0 0, .int .u8 0, .int .i64 0, .slice none 0 0, .int .i64 0] 48)) (by rw [HUL.out]; exact hnU))
        unfold CutPost at HCN
        have HVL : Hid ((cutF us).1.length ≤ 1000 ∧ True) := Lib.hid (by refine ⟨?_, trivial⟩; unfold cutF; have := HUL.out; split <;> simp <;> omega)
        obtain ⟨vs, hvs⟩ : ∃ vs, (cutF us).1 = vs := ⟨_, rfl⟩
        obtain ⟨q, hq⟩ : ∃ q, (cutF us).2.1 = q := ⟨_, rfl⟩
        obtain ⟨k1, hk1⟩ : ∃ q, (cutF us).2.2 = q := ⟨_, rfl⟩
        rw [hvs] at HVL HCN
        rw [hq, hk1] at HCN
        have HRF2 : Hid (cutF us = (vs, q, k1)) := Lib.hid (by rw [← hvs, ← hq, ← hk1])
        clear hvs hq hk1
        obtain ⟨nV, hnV⟩ : ∃ n, vs.length = n := ⟨_, rfl⟩
        have HVS := Lib.hid hnV
        rw [hnV] at HVL
        clear hnV
        have hnV := HVL.out.1
        go_enter Tryz.func117, Tryz.ntmps117
        go_wp2_with fail
        refine (HKO.out _).mono ?_
        rintro e w1 ⟨rfl, rfl⟩
        go_wp2_with fail
        refine HCN.out.mono ?_
        rintro e w2 ⟨ad, cc, rfl, hsr, hb2⟩
        have HDX2 := Lib.hid hsr
        have HTS2 := Lib.hid ((HTS.out.under hb2).setN (n' := (q : Int)))
        obtain ⟨x0, x1, x2, x3, x4, x5, x6, xf⟩ := (HTS.out.under hb2).cells
        have xf6 := xf 6
        clear hsr hb2 xf HDX
        rw [HVS.out] at HDX2 ⊢
        go_wp2_with fail
        go_loopg [5, 45] nV (fun g v5 v45 wr => ∃ (j : Nat) (vi : Value), j + g = nV ∧ v45 = .int .i64 (j : Int) ∧ v5 = .bool (k1 && allB l (vs.take j)) ∧ ToldAt w wr w.heap.size u K (q : Int) vi (insO l (vs.take j)))
        case atStart => exact ⟨0, _, by omega, rfl, by simp [allB], HTS2.out⟩
        case round =>
         obtain ⟨j, vi, hj, rfl, rfl, hT⟩ := hrel
         have HT := Lib.hid hT; clear hT
         by_cases hjn : j < nV
         · have hji : (j : Int) < (nV : Int) := by omega
           have hjl : j < vs.length := by rw [HVS.out]; exact hjn
           obtain ⟨a3, ca2, hae, -, hcc⟩ := HDX2.out.on HT.out.2.2.1
           obtain ⟨b2, o2, hab, hb2, hcx⟩ := hcc (by omega)
           simp only [Value.slice.injEq] at hae
           obtain ⟨ha1, -, -⟩ := hae
           subst ha1
           subst hab
           have hcy := hcx j hjl
           clear hcx
           have HA := Lib.hid (insO_snoc l vs j hjl)
           have HAB := Lib.hid (allB_snoc l vs j hjl)
           obtain ⟨uj, huj⟩ : ∃ x, vs[j] = x := ⟨_, rfl⟩
           rw [huj] at hcy HA HAB
           obtain ⟨f, hf⟩ : ∃ f, findI l uj = f := ⟨_, rfl⟩
           have HF1 := Lib.hid (HF.out wr uj HT.out.2.2.1)
           rw [hf] at HF1 HA HAB
           have p0 := (HT.out.2.2.1.cell (p := ⟨rb, 0, none⟩) HCR.out.1).trans HCR.out.2.1
           have p1 := (HT.out.2.2.1.cell (p := ⟨rb, 1, none⟩) HCR.out.1).trans HCR.out.2.2
           obtain ⟨q, hq⟩ : ∃ q, (k1 && allB l (vs.take j)) = q := ⟨_, rfl⟩
           have HQ : Hid ((k1 && allB l (vs.take (j + 1))) = (q && decide (0 ≤ f))) := Lib.hid (by rw [HAB.out, ← Bool.and_assoc, hq])
           rw [hq]
           have hdl : (insO l (vs.take j)).length ≤ 1000 := by unfold insO; rw [List.length_map, List.length_take, HVS.out]; omega
           clear huj hf hq hjn hjl hcc hb2
           generalize hdone : insO l (vs.take j) = done at HT HA hdl
           clear hdone
           have HSZ : Hid (∀ w1 o, Below wr.heap.size wr w1 → w.heap.size ≤ (w1.alloc o).heap.size) := Lib.hid (fun w1 o hb => by rw [World.size_alloc]; have := HT.out.2.2.1.size; have := hb.size; omega)
           cases q with
           | false =>
            go_wp2_with fail
            refine HF1.out.mono ?_
            rintro e w1 ⟨rfl, hb1⟩
            have HT1 := Lib.hid (HT.out.under hb1)
            obtain ⟨t0, t1, t2, t3, t4, t5, t6, tf⟩ := HT1.out.cells
            have tf2 := tf 2
            have HSZ1 := Lib.hid (fun o => HSZ.out w1 o hb1)
            have HB1 := Lib.hid hb1
            clear hb1 tf t0 t1 t3 t4 t5 t6
            go_wp2_with (at_builtin; refine wpList_append_own _ rfl (.tmp 61) (.tmp 63) 43 rfl w.heap.size 3 i0 (.int .i64 0) 1 8 Tryz.underlying43 hi hz0 hz1 hz2 rfl (by decide) _ _ _ rfl (HT1.out.2.1.alloc _) ⟨_, 0, none⟩ 1 1 [.int .i64 f] rfl rfl (cell_one_new _ _ _) (by simp [Value.oneCell']) (by unfold maxLen; omega) (by omega) (HSZ1.out _) ?_)
            intro v' w2 k4 g4 _
            have HM := Lib.hid (HT.out.more HB1.out k4 g4)
            have hm := HT1.out.mid g4
            obtain ⟨a4, c4, rfl, -, -⟩ := own_slice k4
            have q2 : w2.cell? ⟨w.heap.size, 2, none⟩ = some vi := cell_of hm rfl
            have qf : w2.frozen? ⟨w.heap.size, 2, none⟩ = false := by simp [World.frozen?, hm]
            clear k4 g4 hm
            go_wp2
            go_roundg (gk - 1)
            case rel => exact ⟨j + 1, _, by omega, by go_num, by rw [HQ.out]; simp, by rw [HA.out]; exact HM.out⟩
            case measure => omega
           | true =>
            go_wp2_with fail
            refine HF1.out.mono ?_
            rintro e w1 ⟨rfl, hb1⟩
            have HT1 := Lib.hid (HT.out.under hb1)
            obtain ⟨t0, t1, t2, t3, t4, t5, t6, tf⟩ := HT1.out.cells
            have tf2 := tf 2
            have HSZ1 := Lib.hid (fun o => HSZ.out w1 o hb1)
            have HB1 := Lib.hid hb1
            clear hb1 tf t0 t1 t3 t4 t5 t6
            go_wp2_with (at_builtin; refine wpList_append_own _ rfl (.tmp 61) (.tmp 63) 43 rfl w.heap.size 3 i0 (.int .i64 0) 1 8 Tryz.underlying43 hi hz0 hz1 hz2 rfl (by decide) _ _ _ rfl (HT1.out.2.1.alloc _) ⟨_, 0, none⟩ 1 1 [.int .i64 f] rfl rfl (cell_one_new _ _ _) (by simp [Value.oneCell']) (by unfold maxLen; omega) (by omega) (HSZ1.out _) ?_)
            intro v' w2 k4 g4 _
            have HM := Lib.hid (HT.out.more HB1.out k4 g4)
            have hm := HT1.out.mid g4
            obtain ⟨a4, c4, rfl, -, -⟩ := own_slice k4
            have q2 : w2.cell? ⟨w.heap.size, 2, none⟩ = some vi := cell_of hm rfl
            have qf : w2.frozen? ⟨w.heap.size, 2, none⟩ = false := by simp [World.frozen?, hm]
            clear k4 g4 hm
            go_wp2
            go_roundg (gk - 1)
            case rel => exact ⟨j + 1, _, by omega, by go_num, by rw [HQ.out]; simp, by rw [HA.out]; exact HM.out⟩
            case measure => omega
         · have hji : ¬ (j : Int) < (nV : Int) := by omega
           have hjt : vs.take j = vs := List.take_of_length_le (by rw [HVS.out]; omega)
           rw [hjt] at HT ⊢
           obtain ⟨av, cv, rfl, -, -⟩ := own_slice HT.out.2.1
           have HL := Lib.hid (show (insO l vs).length = nV by unfold insO; rw [List.length_map, HVS.out])
           obtain ⟨t0, t1, t2, t3, t4, t5, t6, tf⟩ := HT.out.cells
           have tf0 := tf 0; have tf1 := tf 1; have tf2 := tf 2; have tf3 := tf 3; have tf4 := tf 4; have tf5 := tf 5; have tf6 := tf 6
           clear tf
           have HZ7 := Lib.hid (HT.out.seven)
           go_wp2_with fail
           obtain ⟨WF, hWF⟩ : ∃ WF, (((((((wr.setCell ⟨w.heap.size, 0, none⟩ (.string u)).setCell ⟨w.heap.size, 1, none⟩ (.int .u8 (K : Int))).setCell ⟨w.heap.size, 2, none⟩ (.slice av (insO l vs).length cv)).setCell ⟨w.heap.size, 3, none⟩ (.int .u8 0)).setCell ⟨w.heap.size, 4, none⟩ (.int .i64 0)).setCell ⟨w.heap.size, 5, none⟩ (.slice none 0 0)).setCell ⟨w.heap.size, 6, none⟩ (.int .i64 (q : Int))) = WF := ⟨_, rfl⟩
           have HZ8 : Hid (ToldAt w WF w.heap.size u K (q : Int) (.slice av (insO l vs).length cv) (insO l vs)) := Lib.hid (by rw [← hWF]; exact HZ7.out)
           rw [hWF]
           clear hWF
           obtain ⟨z0, z1, z2, z3, z4, z5, z6, -⟩ := HZ8.out.cells
           exact bodyPost_ret (v := .tuple #[.agg (ndCells u K (.slice av (insO l vs).length cv) (q : Int)), .bool (k1 && allB l vs)]) (by simp [results, Tryz.f117, go_sem, ndCells, z0, z1, z2, z3, z4, z5, z6]) rfl (by
            unfold ToldPost
            rw [HTF.out, HRF'.out, HRF2.out]
            exact ⟨_, rfl, HZ8.out.2.1, HZ8.out.2.2.1⟩)
end Go.Proofs.YtepdecnegihhhaaGreatDoor.sc

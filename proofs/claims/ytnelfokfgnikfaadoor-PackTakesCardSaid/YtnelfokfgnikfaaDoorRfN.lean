/- What changelingref14's expr answers. -/
import Derived.Test.YtnelfokfgnikfaaDoorRfM
import Derived.Test.YtnelfokfgnikfaaDoorPkS
import Derived.Test.YtnelfokfgnikfaaDoorPkU
import Derived.Deep.DrawnRows
import Derived.Deep.RegionHeld
import Derived.Deep.RegionHeld3
import Derived.Test.YtnelfokfgnikfaaDoorDkR
namespace Go.Proofs.YtnelfokfgnikfaaDoor.rf
set_option linter.unusedSimpArgs false
set_option linter.unusedVariables false
open Go.RowKit nam exp jb pk
attribute [local go_sem ↓] Go.wp_at_zero Go.wp_at_succ

theorem wrap_nat (n : Nat) (h : n ≤ 17) : IntKind.i64.wrap (n : Int) = (n : Int) := by
  simp only [IntKind.wrap, IntKind.bits, IntKind.signed]
  simp
  omega
/-- What expr leaves. -/
def RxPost (B : Nat) (w : World) (x : Ex) (q' : St) (e : Ending) (w' : World) : Prop := ∃ va, e = .returned (exV x va) ∧ Lies w' (fun b => w.heap.size ≤ b) va x.args ∧ TPost B w q' w'
theorem TPost.put {B : Nat} {w w' : World} {q : St} {b j : Nat} {z : Value} (h : TPost B w q w') (hB : B < w.heap.size) (hb : w.heap.size ≤ b) : TPost B w q (w'.setCell ⟨b, j, none⟩ z) := by
  have hb2 : Below w.heap.size w' (w'.setCell ⟨b, j, none⟩ z) := (Below.refl _ w').setCell (p := ⟨b, j, none⟩) hb _
  exact ⟨⟨(hb2.block _ hB).trans h.1.1, h.1.2⟩, h.2.then hb2⟩
theorem erows_lvt {H B : Nat} {w w' : World} {q : St} {v : Value} {rows : List ERow} (h : ERowsAt H w v rows) (hl : LvT B w w') (ht : TextAt w B q) (hB : B < H) : ERowsAt H w' v rows :=
  ⟨h.1.frame fun g hg => hl.block g (h.1.lt hg) (by have := h.2.1 g hg; omega), h.2.1, fun c hc => hl.lies ht (h.2.2 c hc)⟩
/-- The zero expression's three cells put into the result. -/
theorem zero_post {B N : Nat} {w W : World} {q : St} (hN : w.heap.size = N) (hb : Below w.heap.size w W) (hB : B < w.heap.size) (h : TPost B w q W) (hz : W.heap[N]? = some (.cells #[.int .u8 0, .int .i64 0, .slice none 0 0] 50 (0, 0))) :
    RxPost B w Ex.zero q (.returned (.agg #[.int .u8 0, .int .i64 0, .slice none 0 0])) (((W.setCell ⟨N, 0, none⟩ (.int .u8 0)).setCell ⟨N, 1, none⟩ (.int .i64 0)).setCell ⟨N, 2, none⟩ (.slice none 0 0)) :=
  ⟨.slice none 0 0, rfl, .nil, ((h.put hB (by omega)).put hB (by omega)).put hB (by omega)⟩
/-- The caller's world, the text, the result's block (zero yet), the expression's block. -/
def OnE (w : World) (B N : Nat) (q : St) (x y z : Value) (w' : World) : Prop := TPost B w q w' ∧ w'.heap[N]? = some (.cells #[.int .u8 0, .int .i64 0, .slice none 0 0] 50 (0, 0)) ∧ w'.heap[N + 1]? = some (.cells #[x, y, z] 50 (0, 0))
section
variable {w w' w'' : World} {B N : Nat} {q q' : St} {x y z : Value}
theorem OnE.call (h : OnE w B N q x y z w') (hp : TPost B w' q' w'') : OnE w B N q' x y z w'' := ⟨⟨hp.1, h.1.2.trans hp.2⟩, hp.2.ty h.1.1 h.2.1 (by decide), hp.2.ty h.1.1 h.2.2 (by decide)⟩
theorem OnE.under (h : OnE w B N q x y z w') (hb : Below w'.heap.size w' w'') : OnE w B N q x y z w'' := h.call ⟨h.1.1.under hb, LvT.of_below hb⟩
theorem OnE.drew (h : OnE w B N q x y z w') : OnE w B N q x y z w'.drew := h.under (Below.refl _ _).drew
theorem OnE.made (h : OnE w B N q x y z w') (o : Obj) : OnE w B N q x y z (w'.alloc o) := h.under (below_made _ _)
theorem OnE.put0 (h : OnE w B N q x y z w') (hN : w.heap.size = N) (hB : B < w.heap.size) (x' : Value) : OnE w B N q x' y z (w'.setCell ⟨N + 1, 0, none⟩ x') := ⟨h.1.put hB (by omega), (Below.heap_setCell _ _ _ _ (show N ≠ N + 1 by omega)).trans h.2.1, setCell_heap h.2.2⟩
theorem OnE.put1 (h : OnE w B N q x y z w') (hN : w.heap.size = N) (hB : B < w.heap.size) (y' : Value) : OnE w B N q x y' z (w'.setCell ⟨N + 1, 1, none⟩ y') := ⟨h.1.put hB (by omega), (Below.heap_setCell _ _ _ _ (show N ≠ N + 1 by omega)).trans h.2.1, setCell_heap h.2.2⟩
theorem OnE.put2 (h : OnE w B N q x y z w') (hN : w.heap.size = N) (hB : B < w.heap.size) (z' : Value) : OnE w B N q x y z' (w'.setCell ⟨N + 1, 2, none⟩ z') := ⟨h.1.put hB (by omega), (Below.heap_setCell _ _ _ _ (show N ≠ N + 1 by omega)).trans h.2.1, setCell_heap h.2.2⟩
theorem TPost.grown {o : Obj} {r : Option Nat} (h : TPost B w q w') (hg : (w'.alloc o).grownBy w'' r) (hB : B < w.heap.size) (hr : ∀ j, r = some j → w.heap.size ≤ j) : TPost B w q w'' := by
  have hb : Below w.heap.size w' w'' := ((below_made w' o).mono h.2.size).grown hg (by rw [World.size_alloc]; have := h.2.size; omega) hr
  exact ⟨⟨(hb.block _ hB).trans h.1.1, h.1.2⟩, h.2.then hb⟩
theorem OnE.grown {o : Obj} {r : Option Nat} (h : OnE w B N q x y z w') (hN : w.heap.size = N) (hB : B < w.heap.size) (hg : (w'.alloc o).grownBy w'' r) (hr : ∀ j, r = some j → N + 1 + 1 ≤ j) : OnE w B N q x y z w'' := by
  have hs := (Array.getElem?_eq_some_iff.1 h.2.2).1
  have hb : Below (N + 1 + 1) w' w'' := ((below_made w' o).mono hs).grown hg (by rw [World.size_alloc]; omega) hr
  exact ⟨h.1.grown hg hB (fun j hj => by have := hr j hj; omega), (hb.block _ (by omega)).trans h.2.1, (hb.block _ (by omega)).trans h.2.2⟩
theorem erows_drew {H : Nat} {w : World} {v : Value} {rows : List ERow} (h : ERowsAt H w v rows) : ERowsAt H w.drew v rows :=
  ⟨h.1.below (Below.refl _ _).drew, h.2.1, fun c hc => (h.2.2 c hc).under (Below.refl _ _).drew⟩
theorem erows_put {H b j : Nat} {w : World} {v z : Value} {rows : List ERow} (h : ERowsAt H w v rows) (hb : b < H) : ERowsAt H (w.setCell ⟨b, j, none⟩ z) v rows :=
  ⟨h.1.frame fun g hg => Below.heap_setCell _ _ _ _ (show g ≠ b by have := h.2.1 g hg; omega), h.2.1, fun c hc => Lies.put (h.2.2 c hc) (fun k hk => by have := hk.1; omega)⟩
end
set_option maxHeartbeats 3200000 in
set_option maxRecDepth 1000000 in
theorem rexpr_any : ∀ (l : Nat), l ≤ 17 → ∀ (w : World) (B : Nat) (q : St), TextAt w B q → Calls Tryd.prog 30 #[pk.ptr B, .int .i64 (l : Int)] w (RxPost B w (exprR l q).1 (exprR l q).2) := by
  intro l
  induction l with
  | zero =>
    intro _ w B q h
    obtain ⟨i0, hi, hz0, hz1, hz2⟩ := info_parts info_expr
    obtain ⟨N, hN⟩ : ∃ N, w.heap.size = N := ⟨_, rfl⟩
    obtain ⟨W, hW⟩ : ∃ W, (w.alloc zeroE).alloc zeroE = W := ⟨_, rfl⟩
    have hwb : Below w.heap.size w W := by rw [← hW]; exact (below_made w _).alloc (by simp) _
    have hWs : W.heap.size = N + 1 + 1 := by rw [← hW, ← hN]; simp
    have HWS := Lib.hid hWs
    have HBL := Lib.hid h.lt
    have HT := Lib.hid (h.under hwb)
    have HB := Lib.hid hwb
    have hzz0 : W.heap[N]? = some (.cells #[.int .u8 0, .int .i64 0, .slice none 0 0] 50 (0, 0)) := by rw [← hW]; exact heap_old (heap_last hN.symm)
    have hzz1 : W.heap[N + 1]? = some (.cells #[.int .u8 0, .int .i64 0, .slice none 0 0] 50 (0, 0)) := by rw [← hW]; exact heap_last (by simp [hN])
    have HZ0 := Lib.hid hzz0; have HZ1 := Lib.hid hzz1
    obtain ⟨c0, c1, f0, f1⟩ := HT.out.cells
    have HNN := Lib.hid hN; have HWW := Lib.hid hW
    have HTP : Hid (TPost B w q W) := Lib.hid ⟨HT.out, LvT.of_below HB.out⟩
    have HE : Hid (exprR 0 q = (Ex.zero, if q.err ≠ 0 then q else ⟨q.rest, 3⟩)) := Lib.hid (by rw [exprR])
    rw [HE.out, show ((0 : Nat) : Int) = 0 from rfl]
    have HO0 : Hid (OnE w B N q (.int .u8 0) (.int .i64 0) (.slice none 0 0) W) := Lib.hid ⟨HTP.out, HZ0.out, HZ1.out⟩
    clear h hwb hzz0 hzz1 hN hW hWs
    by_cases he : q.err = 0
    · have he' : (q.err != 0) = false := by simp [he]
      rw [if_neg (by simp [he])]
      obtain ⟨W2, hW2⟩ : ∃ W2, W.setCell ⟨B, 1, none⟩ (.int .i64 3) = W2 := ⟨_, rfl⟩
      have HW2 := Lib.hid hW2
      have HTF : Hid (TPost B w ⟨q.rest, 3⟩ W2) := Lib.hid (by rw [← hW2]; exact ⟨(HT.out.fail 3).1, HTP.out.2.trans (HT.out.fail 3).2⟩)
      have HLV : Hid (LvT B W W2) := Lib.hid (by rw [← hW2]; exact (HT.out.fail 3).2)
      have HY0 := Lib.hid (HLV.out.ty HT.out HZ0.out (by decide)); have HY1 := Lib.hid (HLV.out.ty HT.out HZ1.out (by decide))
      clear hW2 he
      go_enter Tryd.func30, Tryd.ntmps30
      go_upto_region 2 with fail
      rw [HNN.out, HWW.out]
      go_upto_region 6 with fail
      rw [HW2.out]
      clear c0 c1 f0 f1
      obtain ⟨y0, y1, y2, -, -, -⟩ := cells3 HY1.out
      obtain ⟨t0, t1, t2, g0, g1, g2⟩ := cells3 HY0.out
      have HE6 := Lib.hid (set3 (x' := .int .u8 0) (y' := .int .i64 0) (z' := .slice none 0 0) HY0.out)
      have HFIN : Hid (RxPost B w Ex.zero ⟨q.rest, 3⟩ (.returned (.agg #[.int .u8 0, .int .i64 0, .slice none 0 0])) (((W2.setCell ⟨N, 0, none⟩ (.int .u8 0)).setCell ⟨N, 1, none⟩ (.int .i64 0)).setCell ⟨N, 2, none⟩ (.slice none 0 0))) := Lib.hid ⟨.slice none 0 0, rfl, .nil, ((HTF.out.put HBL.out (by rw [HNN.out]; exact Nat.le_refl _)).put HBL.out (by rw [HNN.out]; exact Nat.le_refl _)).put HBL.out (by rw [HNN.out]; exact Nat.le_refl _)⟩
      go_wp2_with fail
      obtain ⟨e0, e1, e2, -, -, -⟩ := cells3 HE6.out
      exact bodyPost_ret (v := .agg #[.int .u8 0, .int .i64 0, .slice none 0 0]) (by simp [results, Tryd.f30, go_sem, e0, e1, e2]) rfl HFIN.out
    · have he' : (q.err != 0) = true := by simp [he]
      rw [if_pos he]
      clear he
      go_enter Tryd.func30, Tryd.ntmps30
      go_upto_region 2 with fail
      rw [HNN.out, HWW.out]
      obtain ⟨y0, y1, y2, -, -, -⟩ := cells3 HZ1.out
      obtain ⟨t0, t1, t2, g0, g1, g2⟩ := cells3 HZ0.out
      have HE6 := Lib.hid (set3 (x' := .int .u8 0) (y' := .int .i64 0) (z' := .slice none 0 0) HZ0.out)
      go_wp2_with fail
      obtain ⟨e0, e1, e2, -, -, -⟩ := cells3 HE6.out
      exact bodyPost_ret (v := .agg #[.int .u8 0, .int .i64 0, .slice none 0 0]) (by simp [results, Tryd.f30, go_sem, e0, e1, e2]) rfl (zero_post HNN.out HB.out HBL.out HTP.out HZ0.out)
  | succ l ih =>
    intro h17 w B q h
    obtain ⟨i0, hi, hz0, hz1, hz2⟩ := info_parts info_expr
    obtain ⟨N, hN⟩ : ∃ N, w.heap.size = N := ⟨_, rfl⟩
    obtain ⟨W, hW⟩ : ∃ W, (w.alloc zeroE).alloc zeroE = W := ⟨_, rfl⟩
    have hwb : Below w.heap.size w W := by rw [← hW]; exact (below_made w _).alloc (by simp) _
    have hWs : W.heap.size = N + 1 + 1 := by rw [← hW, ← hN]; simp
    have HWS := Lib.hid hWs
    have HBL := Lib.hid h.lt
    have HT := Lib.hid (h.under hwb)
    have HB := Lib.hid hwb
    have hzz0 : W.heap[N]? = some (.cells #[.int .u8 0, .int .i64 0, .slice none 0 0] 50 (0, 0)) := by rw [← hW]; exact heap_old (heap_last hN.symm)
    have hzz1 : W.heap[N + 1]? = some (.cells #[.int .u8 0, .int .i64 0, .slice none 0 0] 50 (0, 0)) := by rw [← hW]; exact heap_last (by simp [hN])
    have HZ0 := Lib.hid hzz0; have HZ1 := Lib.hid hzz1
    obtain ⟨c0, c1, f0, f1⟩ := HT.out.cells
    have HNN := Lib.hid hN; have HWW := Lib.hid hW
    have HTP : Hid (TPost B w q W) := Lib.hid ⟨HT.out, LvT.of_below HB.out⟩
    have HIH : Hid (∀ (w : World) (B : Nat) (q : St), TextAt w B q → Calls Tryd.prog 30 #[pk.ptr B, .int .i64 (l : Int)] w (RxPost B w (exprR l q).1 (exprR l q).2)) := Lib.hid (fun w B q h => ih (by omega) w B q h)
    clear ih
    have hl1 : (l : Int) + 1 - 1 = (l : Int) := by omega
    have hl17 : (l : Int) ≤ 17 := by omega
    have hwl : IntKind.i64.wrap (l : Int) = (l : Int) := wrap_nat l (by omega)
    push_cast
    have HO0 : Hid (OnE w B N q (.int .u8 0) (.int .i64 0) (.slice none 0 0) W) := Lib.hid ⟨HTP.out, HZ0.out, HZ1.out⟩
    clear h hwb hzz0 hzz1 hN hW hWs
    by_cases he : q.err = 0
    · have he' : (q.err != 0) = false := by simp [he]
      have hl0 : ((l : Int) + 1 == 0) = false := by simp; omega
      have HE : Hid (exprR (l + 1) q = _) := Lib.hid (by rw [exprR])
      obtain ⟨m, hm⟩ : ∃ m : Nat, (withinO 255 2 q).1.toNat = m := ⟨_, rfl⟩
      have hmi := nat_back (most := 255) (why := 2) (q := q) (by omega)
      have hmr := within_range (most := 255) (why := 2) (q := q) (by omega)
      rw [hm] at hmi
      have HBY := Lib.hid (rwithin_any 255 2 (by omega) HT.out)
      rw [← hmi] at HBY
      have hm255 : (m : Int) ≤ 255 := by omega
      obtain ⟨q1, hq1⟩ : ∃ q1, (withinO 255 2 q).2 = q1 := ⟨_, rfl⟩
      rw [hq1] at HBY
      obtain ⟨n, hn⟩ : ∃ n, (numO q1).1 = n := ⟨_, rfl⟩
      obtain ⟨q2, hq2⟩ : ∃ q2, (numO q1).2 = q2 := ⟨_, rfl⟩
      have HNU : Hid (∀ w', TextAt w' B q1 → Calls Tryd.prog 27 #[pk.ptr B] w' fun e w'' => e = .returned (.int .i64 n) ∧ TPost B w' q2 w'') := Lib.hid (fun w' h1 => by have := rnum_any h1; rw [hn, hq2] at this; exact this)
      rw [hm, hq1, hn, hq2] at HE
      obtain ⟨c, hc⟩ : ∃ c : Nat, (withinO 3 3 q2).1.toNat = c := ⟨_, rfl⟩
      have hci := nat_back (most := 3) (why := 3) (q := q2) (by omega)
      have hcr := within_range (most := 3) (why := 3) (q := q2) (by omega)
      rw [hc] at hci
      have hc3 : c ≤ 3 := by omega
      obtain ⟨q3, hq3⟩ : ∃ q3, (withinO 3 3 q2).2 = q3 := ⟨_, rfl⟩
      have HWI : Hid (∀ w', TextAt w' B q2 → Calls Tryd.prog 28 #[pk.ptr B, .int .i64 3, .int .i64 3] w' fun e w'' => e = .returned (.int .i64 (c : Int)) ∧ TPost B w' q3 w'') := Lib.hid (fun w' h1 => by have := rwithin_any 3 3 (by omega) h1; rw [← hci, hq3] at this; exact this)
      rw [hc, hq3] at HE
      rw [HE.out]
      clear hm hmi hmr hq1 hn hq2 hc hci hcr hq3 he
      go_enter Tryd.func30, Tryd.ntmps30
      go_upto_region 2 with fail
      rw [HNN.out, HWW.out]
      go_wp2_with fail
      refine HBY.out.mono ?_
      rintro e w1 ⟨rfl, hp⟩
      have HO1 := Lib.hid (HO0.out.call hp)
      obtain ⟨x0, x1, x2, xf0, xf1, xf2⟩ := cells3 HO1.out.2.2
      clear hp c0 c1 f0 f1
      go_upto_region 8 with fail
      obtain ⟨W2, hW2⟩ : ∃ W2, w1.setCell ⟨N + 1, 0, none⟩ (.int .u8 (m : Int)) = W2 := ⟨_, rfl⟩
      rw [hW2]
      have HO2 := Lib.hid (HO1.out.put0 HNN.out HBL.out (.int .u8 (m : Int)))
      rw [hW2] at HO2
      clear hW2 x0 x1 x2 xf0 xf1 xf2
      go_wp2_with fail
      refine (HNU.out W2 HO2.out.1.1).mono ?_
      rintro e w3 ⟨rfl, hp⟩
      have HO3 := Lib.hid (HO2.out.call hp)
      obtain ⟨x0, x1, x2, xf0, xf1, xf2⟩ := cells3 HO3.out.2.2
      clear hp
      go_upto_region 9 with fail
      obtain ⟨W4, hW4⟩ : ∃ W4, w3.setCell ⟨N + 1, 1, none⟩ (.int .i64 n) = W4 := ⟨_, rfl⟩
      rw [hW4]
      have HO4 := Lib.hid (HO3.out.put1 HNN.out HBL.out (.int .i64 n))
      rw [hW4] at HO4
      clear hW4 x0 x1 x2 xf0 xf1 xf2
      go_wp2_with fail
      refine (HWI.out W4 HO4.out.1.1).mono ?_
      rintro e w5 ⟨rfl, hp⟩
      have HO5 := Lib.hid (HO4.out.call hp)
      clear hp
      go_wp2_with fail
      go_loopg [7] c (fun g v7 wr => ∃ (k : Nat) (rows : List ERow) (u : Value), k + g = c ∧ v7 = .int .i64 (k : Int) ∧ rows.length = k ∧ rows.map (·.1) = (rowO (exprR l) k q3).1 ∧ ERowsAt (N + 1 + 1) wr u rows ∧ OnE w B N (rowO (exprR l) k q3).2 (.int .u8 (m : Int)) (.int .i64 n) u wr)
      case atStart => exact ⟨0, [], .slice none 0 0, by omega, rfl, rfl, rfl, ERowsAt.nil _ _, HO5.out⟩
      case round =>
        rename World => wr
        obtain ⟨k, rows, u, hk, rfl, hlen, hmap, hr, ho⟩ := hrel
        have HR := Lib.hid hr; have HO := Lib.hid ho; have HMP := Lib.hid hmap; have HLN := Lib.hid hlen
        by_cases hkc : k < c
        · have hki : (k : Int) < (c : Int) := by omega
          have HS := Lib.hid (rowO_snoc (f := exprR l) k q3)
          obtain ⟨ll, hll⟩ : ∃ ll, (rowO (exprR l) k q3).1 = ll := ⟨_, rfl⟩
          obtain ⟨qk, hqk⟩ : ∃ qk, (rowO (exprR l) k q3).2 = qk := ⟨_, rfl⟩
          rw [hll] at HMP HS
          rw [hqk] at HO HS
          obtain ⟨x, hx⟩ : ∃ x, (exprR l qk).1 = x := ⟨_, rfl⟩
          obtain ⟨qj, hqj⟩ : ∃ qj, (exprR l qk).2 = qj := ⟨_, rfl⟩
          have HC := Lib.hid (HIH.out wr.drew B qk HO.out.drew.1.1)
          rw [hx, hqj] at HC HS
          have hk3 : (k : Int) ≤ 3 := by omega
          clear hr ho hmap hlen hll hqk hx hqj
          go_wp2_with fail
          refine dsk.wp_region_peel2 (by kernel_rfl) (by simp only [List.dropLast_cons_cons, List.dropLast_singleton]; exact rfl) rfl (by kernel_rfl) ?_
          refine wpAny_of_held (S := fun w' => w'.cell? ⟨N + 1, 2, none⟩ = some u) _ _ _ _ ?_
          have hHeld : wr.drew.cell? ⟨N + 1, 2, none⟩ = some u := (cells3 HO.out.drew.2.2).2.2.1
          refine wpAnyH_take (i := 0) (v := ?v1) rfl (by kernel_rfl) (by kernel_rfl) (by kernel_rfl) (fun _ _ _ h => h) (Or.inl ⟨by rfl, ?hy1⟩) (by assumption) ?rest1
          case hy1 => (intro w0 hSw; (try dsimp only at hSw); go_simp; try with_reducible rfl)
          try simp only [Act.put, List.getElem_toArray, List.getElem_cons_zero, List.getElem_cons_succ, List.setIfInBounds_toArray, List.set_cons_zero, List.set_cons_succ]
          refine wpAnyH_take (i := 1) (v := ?v2) rfl (by kernel_rfl) (by kernel_rfl) (by kernel_rfl) (fun _ _ _ h => h) (Or.inl ⟨by rfl, ?hy2⟩) (by assumption) ?rest2
          case hy2 => (intro w0 hSw; (try dsimp only at hSw); go_simp; try with_reducible rfl)
          try simp only [Act.put, List.getElem_toArray, List.getElem_cons_zero, List.getElem_cons_succ, List.setIfInBounds_toArray, List.set_cons_zero, List.set_cons_succ]
          refine wpAnyH_take (i := 2) (v := ?v3) rfl (by kernel_rfl) (by kernel_rfl) (by kernel_rfl) (fun _ _ _ h => h) (Or.inl ⟨by rfl, ?hy3⟩) (by assumption) ?rest3
          case hy3 => (intro w0 hSw; (try dsimp only at hSw); go_simp; try with_reducible rfl)
          try simp only [Act.put, List.getElem_toArray, List.getElem_cons_zero, List.getElem_cons_succ, List.setIfInBounds_toArray, List.set_cons_zero, List.set_cons_succ]
          refine wpAnyH_take (i := 3) (v := ?v4) rfl (by kernel_rfl) (by kernel_rfl) (by kernel_rfl) (fun _ _ _ h => h) (Or.inl ⟨by rfl, ?hy4⟩) (by assumption) ?rest4
          case hy4 => (intro w0 hSw; (try dsimp only at hSw); go_simp; try with_reducible rfl)
          try simp only [Act.put, List.getElem_toArray, List.getElem_cons_zero, List.getElem_cons_succ, List.setIfInBounds_toArray, List.set_cons_zero, List.set_cons_succ]
          refine wpAnyH_take (i := 4) (v := ?v5) rfl (by kernel_rfl) (by kernel_rfl) (by kernel_rfl) (fun _ _ _ h => h) (Or.inl ⟨by rfl, ?hy5⟩) (by assumption) ?rest5
          case hy5 => (intro w0 hSw; (try dsimp only at hSw); go_simp; try with_reducible rfl)
          try simp only [Act.put, List.getElem_toArray, List.getElem_cons_zero, List.getElem_cons_succ, List.setIfInBounds_toArray, List.set_cons_zero, List.set_cons_succ]
          refine wpAnyH_ready (rs := [5]) (by kernel_rfl) (by simp) ?_
          refine AllReadyH.cons rfl (fun KQ hKQ => ?_) AllReadyH.nil
          go_simp
          refine HC.out.mono ?_
          rintro e w6 ⟨va, rfl, hla, hp⟩
          obtain ⟨aa, ca, rfl, -⟩ := hla.form
          have HO6 := Lib.hid (HO.out.drew.call hp)
          have HR6 := Lib.hid (erows_lvt (erows_drew HR.out) hp.2 HO.out.drew.1.1 (by have := HBL.out; have := HNN.out; omega))
          have HLA : Hid (Lies w6 (fun b => N + 1 + 1 ≤ b ∧ u.ownBlock ≠ some b) (.slice aa x.args.length ca) x.args) := Lib.hid (hla.mono fun b hb => by
            have hb' : wr.heap.size ≤ b := hb
            have h1 := (Array.getElem?_eq_some_iff.1 HO.out.2.2).1
            exact ⟨by omega, fun e => by have := HR.out.1.lt e; omega⟩)
          have HRW : Hid (∀ o, lg.Row (w6.alloc o) 50 3 u k (flatE rows)) := Lib.hid (fun o => by have h1 := HR6.out.1.below (below_made w6 o); rw [HLN.out] at h1; exact h1)
          clear hla hp
          unfold exV
          refine hKQ.out _ _ ?_ (fun hHeld => ?_)
          · exact (cells3 HO6.out.2.2).2.2.1
          clear hKQ KQ
          try simp only [Act.put, List.getElem_toArray, List.getElem_cons_zero, List.getElem_cons_succ, List.setIfInBounds_toArray, List.set_cons_zero, List.set_cons_succ]
          refine wpAnyH_ready (rs := [6]) (by kernel_rfl) (by simp) ?_
          refine AllReadyH.cons rfl (fun KQ hKQ => ?_) AllReadyH.nil
          go_simp
          refine hKQ.out _ _ ?_ (fun hHeld => ?_)
          · exact (cells3 (HO6.out.made _).2.2).2.2.1
          clear hKQ KQ
          try simp only [Act.put, List.getElem_toArray, List.getElem_cons_zero, List.getElem_cons_succ, List.setIfInBounds_toArray, List.set_cons_zero, List.set_cons_succ]
          refine wpAnyH_ready (rs := [7]) (by kernel_rfl) (by simp) ?_
          refine AllReadyH.cons rfl (fun KQ hKQ => ?_) AllReadyH.nil
          refine lg.step_append_row _ (by rfl) (.tmp 36) (.tmp 41) 48 (by rfl) 50 i0 (.agg #[.int .u8 0, .int .i64 0, .slice none 0 0]) 3 40 Tryd.underlying48 hi hz0 hz1 hz2 rfl (by decide) u k (flatE rows) (by rfl) (HRW.out _) ⟨_, 0, none⟩ 1 1 [.int .u8 (x.op : Int), .int .i64 x.n, .slice aa x.args.length ca] (by rfl) (by rfl) (World.news_of_block (cs := #[.int .u8 (x.op : Int), .int .i64 x.n, .slice aa x.args.length ca]) (t := 50) (fr := (0, 0)) (heap_alloc_new _ _)) (by simp [Value.oneCell']) (by omega) (by unfold maxLen; omega) (by omega) _ rfl ?_
          intro gb cap w7 hown hg hat hlt
          have HO7 := Lib.hid (HO6.out.grown HNN.out HBL.out hg (fun j hj => by have := HR6.out.2.1 j hj; omega))
          have HR7 : Hid (ERowsAt (N + 1 + 1) w7 (.slice (some ⟨gb, 0, none⟩) (k + 1) cap) (rows ++ [(x, .slice aa x.args.length ca)])) := Lib.hid (by
            have h1 := HR6.out.push (c := (x, .slice aa x.args.length ca)) (g := gb) (cap := cap) (w5 := w7) (by have := (Array.getElem?_eq_some_iff.1 HO6.out.2.2).1; omega) HLA.out hg (by rw [HLN.out]; exact hown) hat
            rw [HLN.out] at h1
            exact h1)
          clear hown hg hat hlt
          refine hKQ.out _ _ ?_ (fun hHeld => ?_)
          · exact (cells3 HO7.out.2.2).2.2.1
          clear hKQ KQ
          try simp only [Act.put, List.getElem_toArray, List.getElem_cons_zero, List.getElem_cons_succ, List.setIfInBounds_toArray, List.set_cons_zero, List.set_cons_succ]
          refine wpAnyH_take (i := 8) (v := ?v6) rfl (by kernel_rfl) (by kernel_rfl) (by kernel_rfl) (fun _ _ _ h => h) (Or.inl ⟨by rfl, ?hy6⟩) (by assumption) ?rest6
          case hy6 => (intro w0 hSw; (try dsimp only at hSw); go_simp; try with_reducible rfl)
          try simp only [Act.put, List.getElem_toArray, List.getElem_cons_zero, List.getElem_cons_succ, List.setIfInBounds_toArray, List.set_cons_zero, List.set_cons_succ]
          refine wpAnyH_done (by kernel_rfl) ?_ _
          change wpList _ _ _ _ _ _
          obtain ⟨x0, x1, x2, xf0, xf1, xf2⟩ := cells3 HO7.out.2.2
          have HO8 := Lib.hid (HO7.out.put2 HNN.out HBL.out (.slice (some ⟨gb, 0, none⟩) (k + 1) cap))
          have HR8 := Lib.hid (erows_put (z := .slice (some ⟨gb, 0, none⟩) (k + 1) cap) (j := 2) HR7.out (show N + 1 < N + 1 + 1 by omega))
          clear hHeld
          go_wp2_with fail
          go_roundg (gk - 1)
          case measure => omega
          case rel => exact ⟨k + 1, rows ++ [(x, .slice aa x.args.length ca)], _, by omega, by go_num, by simp [HLN.out], by rw [HS.out, List.map_append, HMP.out]; rfl, HR8.out, by rw [HS.out]; exact HO8.out⟩
        · have hki : ¬ (k : Int) < (c : Int) := by omega
          obtain rfl : k = c := by omega
          have HLA : Hid (Lies wr (fun b => N + 1 + 1 ≤ b) u (rowO (exprR l) k q3).1) := Lib.hid (by rw [← HMP.out]; exact HR.out.lies)
          obtain ⟨ll, hll⟩ : ∃ ll, (rowO (exprR l) k q3).1 = ll := ⟨_, rfl⟩
          obtain ⟨qk, hqk⟩ : ∃ qk, (rowO (exprR l) k q3).2 = qk := ⟨_, rfl⟩
          rw [hll] at HLA
          rw [hqk] at HO
          obtain ⟨au, cu, rfl, -⟩ := HLA.out.form
          obtain ⟨nl, hnl⟩ : ∃ nl, ll.length = nl := ⟨_, rfl⟩
          rw [hnl] at HLA HO
          clear hkc hr ho hmap hlen hnl
          obtain ⟨y0, y1, y2, -, -, -⟩ := cells3 HO.out.2.2
          obtain ⟨t0, t1, t2, g0, g1, g2⟩ := cells3 HO.out.2.1
          have HE6 := Lib.hid (set3 (x' := .int .u8 (m : Int)) (y' := .int .i64 n) (z' := .slice au nl cu) HO.out.2.1)
          have HFIN : Hid (RxPost B w (.mk m n ll) qk (.returned (.agg #[.int .u8 (m : Int), .int .i64 n, .slice au nl cu])) (((wr.setCell ⟨N, 0, none⟩ (.int .u8 (m : Int))).setCell ⟨N, 1, none⟩ (.int .i64 n)).setCell ⟨N, 2, none⟩ (.slice au nl cu))) := Lib.hid ⟨.slice au nl cu, rfl, (lies_put3 HLA.out (fun b hb => by have hb' : N + 1 + 1 ≤ b := hb; omega)).mono (fun b hb => by have hb' : N + 1 + 1 ≤ b := hb; rw [HNN.out]; omega), ((HO.out.1.put HBL.out (by rw [HNN.out]; exact Nat.le_refl _)).put HBL.out (by rw [HNN.out]; exact Nat.le_refl _)).put HBL.out (by rw [HNN.out]; exact Nat.le_refl _)⟩
          rw [← hll, ← hqk] at HFIN
          clear hll hqk
          go_wp2_with fail
          try rw [Exit.noGoto_ret]
          obtain ⟨e0, e1, e2, -, -, -⟩ := cells3 HE6.out
          exact bodyPost_ret (v := .agg #[.int .u8 (m : Int), .int .i64 n, .slice au nl cu]) (by simp [results, Tryd.f30, go_sem, e0, e1, e2]) rfl HFIN.out
    · have he' : (q.err != 0) = true := by simp [he]
      rw [exprR_err _ _ he]
      clear he
      go_enter Tryd.func30, Tryd.ntmps30
      go_upto_region 2 with fail
      rw [HNN.out, HWW.out]
      obtain ⟨y0, y1, y2, -, -, -⟩ := cells3 HZ1.out
      obtain ⟨t0, t1, t2, g0, g1, g2⟩ := cells3 HZ0.out
      have HE6 := Lib.hid (set3 (x' := .int .u8 0) (y' := .int .i64 0) (z' := .slice none 0 0) HZ0.out)
      go_wp2_with fail
      obtain ⟨e0, e1, e2, -, -, -⟩ := cells3 HE6.out
      exact bodyPost_ret (v := .agg #[.int .u8 0, .int .i64 0, .slice none 0 0]) (by simp [results, Tryd.f30, go_sem, e0, e1, e2]) rfl (zero_post HNN.out HB.out HBL.out HTP.out HZ0.out)
end Go.Proofs.YtnelfokfgnikfaaDoor.rf

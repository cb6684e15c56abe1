/- What changelingref14.Take answers. -/
import Derived.Test.YtnelfokfgnikfaaDoorRfN
import Derived.Test.YtnelfokfgnikfaaDoorRfK
import Derived.Test.YtnelfokfgnikfaaDoorPkQ
import Derived.Test.YtnelfokfgnikfaaDoorMRj
import Derived.Deep.AppendLies
namespace Go.Proofs.YtnelfokfgnikfaaDoor.rf
set_option linter.unusedSimpArgs false
set_option linter.unusedVariables false
open Go.RowKit nam exp jb pk
attribute [local go_sem ↓] Go.wp_at_zero Go.wp_at_succ

/-- The text, and a block of the caller's own that was made behind the world w0. -/
def OnB (w0 : World) (B M : Nat) (t : TypeId) (q : St) (cs : Array Value) (w' : World) : Prop := TPost B w0 q w' ∧ w'.heap[M]? = some (.cells cs t (0, 0))
section
variable {w0 w' w'' : World} {B M : Nat} {t : TypeId} {q q' : St} {cs : Array Value}
theorem OnB.call (h : OnB w0 B M t q cs w') (ht : t ≠ 62) (hp : TPost B w' q' w'') : OnB w0 B M t q' cs w'' := ⟨⟨hp.1, h.1.2.trans hp.2⟩, hp.2.ty h.1.1 h.2 ht⟩
theorem OnB.under (h : OnB w0 B M t q cs w') (hb : Below w'.heap.size w' w'') : OnB w0 B M t q cs w'' := ⟨⟨h.1.1.under hb, h.1.2.trans (LvT.of_below hb)⟩, (hb.block _ (Array.getElem?_eq_some_iff.1 h.2).1).trans h.2⟩
theorem OnB.drew (h : OnB w0 B M t q cs w') : OnB w0 B M t q cs w'.drew := h.under (Below.refl _ _).drew
theorem OnB.made (h : OnB w0 B M t q cs w') (o : Obj) : OnB w0 B M t q cs (w'.alloc o) := h.under (below_made _ _)
theorem OnB.put (h : OnB w0 B M t q cs w') (hM : w0.heap.size ≤ M) (hB : B < w0.heap.size) (j : Nat) (z : Value) : OnB w0 B M t q (cs.setIfInBounds j z) (w'.setCell ⟨M, j, none⟩ z) := ⟨h.1.put hB hM, setCell_heap h.2⟩
theorem OnB.grown {o : Obj} {r : Option Nat} (h : OnB w0 B M t q cs w') (hM : w0.heap.size ≤ M) (hB : B < w0.heap.size) (hg : (w'.alloc o).grownBy w'' r) (hr : ∀ j, r = some j → M < j) : OnB w0 B M t q cs w'' := by
  have hs := (Array.getElem?_eq_some_iff.1 h.2).1
  have hb : Below (M + 1) w' w'' := ((below_made w' o).mono hs).grown hg (by rw [World.size_alloc]; omega) (fun j hj => by have := hr j hj; omega)
  exact ⟨h.1.grown hg hB (fun j hj => by have := hr j hj; omega), (hb.block _ (by omega)).trans h.2⟩
theorem own_lvt {H e size n : Nat} {v : Value} {xs : List Value} (hl : LvT B w' w'') (hB : B < H) (ho : w'.ownsRow H e size v n xs) : w''.ownsRow H e size v n xs := by
  obtain ⟨k1, k2 | ⟨g, cap, cur, a0, a1, a2, a3⟩⟩ := ho
  · exact ⟨k1, .inl k2⟩
  · exact ⟨k1, .inr ⟨g, cap, cur, a0, a1, (hl.block g (Array.getElem?_eq_some_iff.1 a2).1 (by omega)).trans a2, a3⟩⟩
theorem rows_lvt {H : Nat} {v : Value} {rows : List NRow} (h : NRowsAt H w' v rows) (hl : LvT B w' w'') (ht : TextAt w' B q) (hB : B < H) : NRowsAt H w'' v rows :=
  ⟨own_lvt hl hB h.1, fun c hc => ⟨own_lvt hl hB (h.2 c hc).1, hl.lies ht (h.2 c hc).2⟩⟩
end
theorem nil_list : (⟨#[]⟩ : ByteArray).toList = [] := by first | (rw [Go.toList_eq]; done) | kernel_rfl
def RtPost (s : ByteArray) (w : World) (e : Ending) (w' : World) : Prop := ∃ v, e = .returned (.tuple #[.agg #[.int .i64 (takeR s).1.1, v], .int .i64 (takeR s).2]) ∧ Nodes w' v (takeR s).1.2 ∧ Below w.heap.size w w'
abbrev zeroJ : Obj := .cells #[.int .i64 0, .slice none 0 0] 24
abbrev zeroN : Obj := .cells #[.string ⟨#[]⟩, .int .u8 0, .slice none 0 0, .int .u8 0, .int .i64 0, .slice none 0 0, .int .i64 0] 52
set_option maxHeartbeats 3200000 in
set_option maxRecDepth 1000000 in
theorem rtake_any {w : World} (s : ByteArray) (hs : s.size ≤ 1000000) : Calls Tryd.prog 13 #[.string s] w (RtPost s w) := by
  obtain ⟨i0, hi, hz0, hz1, hz2⟩ := info_parts info_node
  obtain ⟨j0, hj, hy0, hy1, hy2⟩ := info_parts info_int
  obtain ⟨N, hN⟩ : ∃ N, w.heap.size = N := ⟨_, rfl⟩
  obtain ⟨W1, hW1⟩ : ∃ W, (w.alloc zeroJ).alloc (.cells #[.string s, .int .i64 0] 62) = W := ⟨_, rfl⟩
  obtain ⟨W, hW⟩ : ∃ W, W1.alloc zeroJ = W := ⟨_, rfl⟩
  have hw1 : Below w.heap.size w W1 := by rw [← hW1]; exact (below_made w _).alloc (by simp) _
  have hs1 : W1.heap.size = N + 1 + 1 := by rw [← hW1, ← hN]; simp
  have hzz : W1.heap[N]? = some (.cells #[.int .i64 0, .slice none 0 0] 24 (0, 0)) := by rw [← hW1]; exact heap_old (heap_last hN.symm)
  have htx : TextAt W1 (N + 1) ⟨s, 0⟩ := by
    refine ⟨?_, by show s.size ≤ _; omega⟩
    rw [← hW1]; exact heap_last (by simp [hN])
  have HSS := Lib.hid hs
  have HB1 := Lib.hid hw1; have HS1 := Lib.hid hs1; have HZZ := Lib.hid hzz; have HT1 := Lib.hid htx
  have HNN := Lib.hid hN
  have HO0 : Hid (OnB W1 (N + 1) (N + 1 + 1) 24 ⟨s, 0⟩ #[.int .i64 0, .slice none 0 0] W) := Lib.hid (by
    rw [← hW]
    exact ⟨⟨htx.under (below_made _ _), LvT.of_below (below_made _ _)⟩, heap_last hs1.symm⟩)
  have HBL : Hid (N + 1 < W1.heap.size) := Lib.hid (by omega)
  have HML : Hid (W1.heap.size ≤ N + 1 + 1) := Lib.hid (by omega)
  have HNU : Hid (∀ (q : St) w', TextAt w' (N + 1) q → Calls Tryd.prog 27 #[pk.ptr (N + 1)] w' fun e w'' => e = .returned (.int .i64 (numO q).1) ∧ TPost (N + 1) w' (numO q).2 w'') := Lib.hid (fun q w' h1 => rnum_any h1)
  have HTX : Hid (∀ (q : St) w', TextAt w' (N + 1) q → Calls Tryd.prog 29 #[pk.ptr (N + 1)] w' fun e w'' => e = .returned (.string (textO q).1) ∧ TPost (N + 1) w' (textO q).2 w'') := Lib.hid (fun q w' h1 => rtext_any h1)
  have HWI : Hid (∀ (most why : Int) (q : St) w', 0 ≤ most → TextAt w' (N + 1) q → Calls Tryd.prog 28 #[pk.ptr (N + 1), .int .i64 most, .int .i64 why] w' fun e w'' => e = .returned (.int .i64 ((withinO most why q).1.toNat : Int)) ∧ TPost (N + 1) w' (withinO most why q).2 w'') := Lib.hid (fun most why q w' h0 h1 => by have := rwithin_any most why h0 h1; rw [← nat_back (most := most) (why := why) (q := q) h0] at this; exact this)
  have HEX : Hid (∀ (q : St) w', TextAt w' (N + 1) q → Calls Tryd.prog 30 #[pk.ptr (N + 1), .int .i64 17] w' (RxPost (N + 1) w' (exprR 17 q).1 (exprR 17 q).2)) := Lib.hid (fun q w' h1 => rexpr_any 17 (by omega) w' (N + 1) q h1)
  obtain ⟨par, hpar⟩ : ∃ p, (numO ⟨s, 0⟩).1 = p := ⟨_, rfl⟩
  obtain ⟨q1, hq1⟩ : ∃ q1, (numO ⟨s, 0⟩).2 = q1 := ⟨_, rfl⟩
  obtain ⟨c, hc⟩ : ∃ c : Nat, (withinO 12 3 q1).1.toNat = c := ⟨_, rfl⟩
  obtain ⟨q2, hq2⟩ : ∃ q2, (withinO 12 3 q1).2 = q2 := ⟨_, rfl⟩
  have hc12 : c ≤ 12 := by
    have := within_range (most := 12) (why := 3) (q := q1) (by omega)
    omega
  have HJ : Hid (jobR ⟨s, 0⟩ = ((par, (rowO nodeR c q2).1), (rowO nodeR c q2).2)) := Lib.hid (by unfold jobR nodesR; rw [hpar, hq1, hc, hq2])
  have HC1 := Lib.hid (HNU.out ⟨s, 0⟩ W HO0.out.1.1)
  rw [hpar, hq1] at HC1
  have HC2 : Hid (∀ w', TextAt w' (N + 1) q1 → Calls Tryd.prog 28 #[pk.ptr (N + 1), .int .i64 12, .int .i64 3] w' fun e w'' => e = .returned (.int .i64 (c : Int)) ∧ TPost (N + 1) w' q2 w'') := Lib.hid (fun w' h1 => by have := HWI.out 12 3 q1 w' (by omega) h1; rw [hc, hq2] at this; exact this)
  have HWW1 := Lib.hid hW1; have HWW := Lib.hid hW
  clear hw1 hs1 hzz htx hN hW hW1 hpar hq1 hc hq2 hs
  go_enter Tryd.func13, Tryd.ntmps13
  go_upto_region 3 with fail
  rw [HNN.out, HWW1.out, HWW.out]
  go_wp2_with fail
  refine HC1.out.mono ?_
  rintro e w1 ⟨rfl, hp⟩
  have HO1 := Lib.hid (HO0.out.call (by decide) hp)
  obtain ⟨x0, x1, xf0, xf1⟩ := cells2 HO1.out.2
  clear hp
  go_upto_region 4 with fail
  obtain ⟨W2, hW2⟩ : ∃ W2, w1.setCell ⟨N + 1 + 1, 0, none⟩ (.int .i64 par) = W2 := ⟨_, rfl⟩
  rw [hW2]
  have HO2 : Hid (OnB W1 (N + 1) (N + 1 + 1) 24 q1 #[.int .i64 par, .slice none 0 0] W2) := Lib.hid (by rw [← hW2]; exact HO1.out.put HML.out HBL.out 0 _)
  clear hW2 x0 x1 xf0 xf1
  have HC3 := Lib.hid (HC2.out W2 HO2.out.1.1)
  go_wp2_with fail
  refine HC3.out.mono ?_
  rintro e w3 ⟨rfl, hp⟩
  have HO3 := Lib.hid (HO2.out.call (by decide) hp)
  clear hp
  go_wp2_with fail
  go_loopg [7] c (fun g v7 wr => ∃ (k : Nat) (rows : List NRow) (u : Value), k + g = c ∧ v7 = .int .i64 (k : Int) ∧ rows.length = k ∧ rows.map (·.1) = (rowO nodeR k q2).1 ∧ NRowsAt (N + 1 + 1 + 1) wr u rows ∧ OnB W1 (N + 1) (N + 1 + 1) 24 (rowO nodeR k q2).2 #[.int .i64 par, u] wr)
  case atStart => exact ⟨0, [], .slice none 0 0, by omega, rfl, rfl, rfl, NRowsAt.nil _ _, HO3.out⟩
  case round =>
    rename World => wr
    rename Nat => G
    obtain ⟨k, rows, u, hk, rfl, hlen, hmap, hr, ho⟩ := hrel
    have HR := Lib.hid hr; have HO := Lib.hid ho; have HMP := Lib.hid hmap; have HLN := Lib.hid hlen
    have HS := Lib.hid (rowO_snoc (f := nodeR) k q2)
    have HST : Hid (k ≤ c → (rowO nodeR k q2).2.err ≠ 0 → (rowO nodeR c q2).2 = (rowO nodeR k q2).2) := Lib.hid (fun h1 h2 => nodes_stop h1 h2)
    have HAC : Hid (k = c → (rowO nodeR c q2) = (rowO nodeR k q2)) := Lib.hid (fun h => by rw [h])
    obtain ⟨ll, hll⟩ : ∃ ll, (rowO nodeR k q2).1 = ll := ⟨_, rfl⟩
    obtain ⟨qk, hqk⟩ : ∃ qk, (rowO nodeR k q2).2 = qk := ⟨_, rfl⟩
    have HQK : Hid (rowO nodeR k q2 = (ll, qk)) := Lib.hid (by rw [← hll, ← hqk])
    rw [hll] at HMP HS
    rw [hqk] at HO HS HST
    obtain ⟨t0, t1, tf0, tf1⟩ := HO.out.1.1.cells
    have HBR : Hid (Below w.heap.size w wr) := Lib.hid (HB1.out.trans (HO.out.1.2.below (by have := HNN.out; omega) (by have := HNN.out; have := HS1.out; omega)))
    clear hr ho hmap hlen hll hqk
    by_cases hkc : k < c
    · have hki : (k : Int) < (c : Int) := by omega
      by_cases he : qk.err = 0
      · have he' : (qk.err == 0) = true := by simp [he]
        clear he
        obtain ⟨M, hM⟩ : ∃ M, wr.heap.size = M := ⟨_, rfl⟩
        obtain ⟨V, hV⟩ : ∃ V, wr.alloc zeroN = V := ⟨_, rfl⟩
        have HM := Lib.hid hM; have HVV := Lib.hid hV
        have HNL : Hid (N + 1 < wr.heap.size) := Lib.hid HO.out.1.1.lt
        have HNM : Hid (N + 1 + 1 < M) := Lib.hid (by rw [← hM]; exact (Array.getElem?_eq_some_iff.1 HO.out.2).1)
        have HMW : Hid (wr.heap.size ≤ M) := Lib.hid (by omega)
        have HD0 : Hid (OnB wr (N + 1) M 52 qk #[.string ⟨#[]⟩, .int .u8 0, .slice none 0 0, .int .u8 0, .int .i64 0, .slice none 0 0, .int .i64 0] V) := Lib.hid (by
          rw [← hV]
          exact ⟨⟨HO.out.1.1.under (below_made _ _), LvT.of_below (below_made _ _)⟩, heap_last hM.symm⟩)
        obtain ⟨uid, huid⟩ : ∃ x, (textO qk).1 = x := ⟨_, rfl⟩
        obtain ⟨r1, hr1⟩ : ∃ x, (textO qk).2 = x := ⟨_, rfl⟩
        obtain ⟨kd, hkd⟩ : ∃ x : Nat, (withinO 255 2 r1).1.toNat = x := ⟨_, rfl⟩
        obtain ⟨r2, hr2⟩ : ∃ x, (withinO 255 2 r1).2 = x := ⟨_, rfl⟩
        obtain ⟨nn, hnn⟩ : ∃ x, (numO r2).1 = x := ⟨_, rfl⟩
        obtain ⟨r3, hr3⟩ : ∃ x, (numO r2).2 = x := ⟨_, rfl⟩
        obtain ⟨ci, hci⟩ : ∃ x : Nat, (withinO 12 3 r3).1.toNat = x := ⟨_, rfl⟩
        obtain ⟨r4, hr4⟩ : ∃ x, (withinO 12 3 r3).2 = x := ⟨_, rfl⟩
        have hkd255 : (kd : Int) ≤ 255 := by have := within_range (most := 255) (why := 2) (q := r1) (by omega); omega
        have hci12 : ci ≤ 12 := by have := within_range (most := 12) (why := 3) (q := r3) (by omega); omega
        have HNR : Hid (nodeR qk = (⟨uid, kd, (rowO numO ci r4).1, (exprR 17 (rowO numO ci r4).2).1, nn⟩, (exprR 17 (rowO numO ci r4).2).2)) := Lib.hid (by
          unfold nodeR headO insO
          simp only [huid, hr1, hkd, hr2, hnn, hr3, hci, hr4])
        have HT1' := Lib.hid (HTX.out qk V HD0.out.1.1)
        rw [huid, hr1] at HT1'
        have HK1 : Hid (∀ w', TextAt w' (N + 1) r1 → Calls Tryd.prog 28 #[pk.ptr (N + 1), .int .i64 255, .int .i64 2] w' fun e w'' => e = .returned (.int .i64 (kd : Int)) ∧ TPost (N + 1) w' r2 w'') := Lib.hid (fun w' h1 => by have := HWI.out 255 2 r1 w' (by omega) h1; rw [hkd, hr2] at this; exact this)
        have HN1' : Hid (∀ w', TextAt w' (N + 1) r2 → Calls Tryd.prog 27 #[pk.ptr (N + 1)] w' fun e w'' => e = .returned (.int .i64 nn) ∧ TPost (N + 1) w' r3 w'') := Lib.hid (fun w' h1 => by have := HNU.out r2 w' h1; rw [hnn, hr3] at this; exact this)
        have HI1' : Hid (∀ w', TextAt w' (N + 1) r3 → Calls Tryd.prog 28 #[pk.ptr (N + 1), .int .i64 12, .int .i64 3] w' fun e w'' => e = .returned (.int .i64 (ci : Int)) ∧ TPost (N + 1) w' r4 w'') := Lib.hid (fun w' h1 => by have := HWI.out 12 3 r3 w' (by omega) h1; rw [hci, hr4] at this; exact this)
        clear hM hV huid hr1 hkd hr2 hnn hr3 hci hr4
        go_upto_region 9 with fail
        rw [HM.out, HVV.out]
        clear t0 t1 tf0 tf1
        go_wp2_with fail
        refine HT1'.out.mono ?_
        rintro e v1 ⟨rfl, hp⟩
        have HD1 := Lib.hid (HD0.out.call (by decide) hp)
        obtain ⟨x0, x1, x2, x3, x4, x5, x6, xf⟩ := cells7 HD1.out.2
        have xf0 := xf 0
        clear hp xf
        go_upto_region 10 with fail
        obtain ⟨V2, hV2⟩ : ∃ V2, v1.setCell ⟨M, 0, none⟩ (.string uid) = V2 := ⟨_, rfl⟩
        rw [hV2]
        have HD2 : Hid (OnB wr (N + 1) M 52 r1 #[.string uid, .int .u8 0, .slice none 0 0, .int .u8 0, .int .i64 0, .slice none 0 0, .int .i64 0] V2) := Lib.hid (by rw [← hV2]; exact HD1.out.put HMW.out HNL.out 0 _)
        clear hV2 x0 x1 x2 x3 x4 x5 x6 xf0
        have HK2 := Lib.hid (HK1.out V2 HD2.out.1.1)
        go_wp2_with fail
        refine HK2.out.mono ?_
        rintro e v3 ⟨rfl, hp⟩
        have HD3 := Lib.hid (HD2.out.call (by decide) hp)
        obtain ⟨x0, x1, x2, x3, x4, x5, x6, xf⟩ := cells7 HD3.out.2
        have xf1 := xf 1
        clear hp xf
        go_upto_region 11 with fail
        obtain ⟨V4, hV4⟩ : ∃ V4, v3.setCell ⟨M, 1, none⟩ (.int .u8 (kd : Int)) = V4 := ⟨_, rfl⟩
        rw [hV4]
        have HD4 : Hid (OnB wr (N + 1) M 52 r2 #[.string uid, .int .u8 (kd : Int), .slice none 0 0, .int .u8 0, .int .i64 0, .slice none 0 0, .int .i64 0] V4) := Lib.hid (by rw [← hV4]; exact HD3.out.put HMW.out HNL.out 1 _)
        clear hV4 x0 x1 x2 x3 x4 x5 x6 xf1
        have HK3 := Lib.hid (HN1'.out V4 HD4.out.1.1)
        go_wp2_with fail
        refine HK3.out.mono ?_
        rintro e v5 ⟨rfl, hp⟩
        have HD5 := Lib.hid (HD4.out.call (by decide) hp)
        obtain ⟨x0, x1, x2, x3, x4, x5, x6, xf⟩ := cells7 HD5.out.2
        have xf6 := xf 6
        clear hp xf
        go_upto_region 12 with fail
        obtain ⟨V6, hV6⟩ : ∃ V6, v5.setCell ⟨M, 6, none⟩ (.int .i64 nn) = V6 := ⟨_, rfl⟩
        rw [hV6]
        have HD6 : Hid (OnB wr (N + 1) M 52 r3 #[.string uid, .int .u8 (kd : Int), .slice none 0 0, .int .u8 0, .int .i64 0, .slice none 0 0, .int .i64 nn] V6) := Lib.hid (by rw [← hV6]; exact HD5.out.put HMW.out HNL.out 6 _)
        clear hV6 x0 x1 x2 x3 x4 x5 x6 xf6
        have HK4 := Lib.hid (HI1'.out V6 HD6.out.1.1)
        go_wp2_with fail
        refine HK4.out.mono ?_
        rintro e v7 ⟨rfl, hp⟩
        have HD7 := Lib.hid (HD6.out.call (by decide) hp)
        clear hp
        go_wp2_with fail
        go_loopg [10] ci (fun g v10 wi => ∃ (i : Nat) (v : Value), i + g = ci ∧ v10 = .int .i64 (i : Int) ∧ wi.ownsRow (M + 1) 3 1 v i ((rowO numO i r4).1.map intV) ∧ OnB wr (N + 1) M 52 (rowO numO i r4).2 #[.string uid, .int .u8 (kd : Int), v, .int .u8 0, .int .i64 0, .slice none 0 0, .int .i64 nn] wi)
        case atStart => exact ⟨0, .slice none 0 0, by omega, rfl, World.ownsRow_nil _ _ _ _, HD7.out⟩
        case round =>
          rename World => wi
          obtain ⟨i, v, hik, rfl, hri, hdi⟩ := hrel
          have HRI := Lib.hid hri; have HDI := Lib.hid hdi
          have HSI := Lib.hid (rowO_snoc (f := numO) i r4)
          have HCC : Hid (i = ci → rowO numO ci r4 = rowO numO i r4) := Lib.hid (fun h => by rw [h])
          obtain ⟨il, hil⟩ : ∃ il, (rowO numO i r4).1 = il := ⟨_, rfl⟩
          obtain ⟨qi, hqi⟩ : ∃ qi, (rowO numO i r4).2 = qi := ⟨_, rfl⟩
          have HQI : Hid (rowO numO i r4 = (il, qi)) := Lib.hid (by rw [← hil, ← hqi])
          rw [hil] at HRI HSI
          rw [hqi] at HDI HSI
          clear hri hdi hil hqi
          by_cases hic : i < ci
          · have hii : (i : Int) < (ci : Int) := by omega
            have HCI := Lib.hid (HNU.out qi wi.drew HDI.out.drew.1.1)
            obtain ⟨nx, hnx⟩ : ∃ x, (numO qi).1 = x := ⟨_, rfl⟩
            obtain ⟨qj, hqj⟩ : ∃ x, (numO qi).2 = x := ⟨_, rfl⟩
            rw [hnx, hqj] at HCI HSI
            have hi12 : (i : Int) ≤ 12 := by omega
            clear hnx hqj
            go_wp2_with fail
            refine dsk.wp_region_peel2 (by kernel_rfl) (by simp only [List.dropLast_cons_cons, List.dropLast_singleton]; exact rfl) rfl (by kernel_rfl) ?_
            refine wpAny_of_held (S := fun w' => w'.cell? ⟨M, 2, none⟩ = some v) _ _ _ _ ?_
            have hHeld : wi.drew.cell? ⟨M, 2, none⟩ = some v := (cells7 HDI.out.drew.2).2.2.1
            refine wpAnyH_take (i := 0) (v := ?v1) rfl (by kernel_rfl) (by kernel_rfl) (by kernel_rfl) (fun _ _ _ h => h) (Or.inl ⟨by rfl, ?hy1⟩) (by assumption) ?rest1
            case hy1 => (intro w0 hSw; (try dsimp only at hSw); go_simp; try with_reducible rfl)
            try simp only [Act.put, List.getElem_toArray, List.getElem_cons_zero, List.getElem_cons_succ, List.setIfInBounds_toArray, List.set_cons_zero, List.set_cons_succ]
            refine wpAnyH_take (i := 1) (v := ?v2) rfl (by kernel_rfl) (by kernel_rfl) (by kernel_rfl) (fun _ _ _ h => h) (Or.inl ⟨by rfl, ?hy2⟩) (by assumption) ?rest2
            case hy2 => (intro w0 hSw; (try dsimp only at hSw); go_simp; try with_reducible rfl)
            try simp only [Act.put, List.getElem_toArray, List.getElem_cons_zero, List.getElem_cons_succ, List.setIfInBounds_toArray, List.set_cons_zero, List.set_cons_succ]
            refine wpAnyH_take (i := 2) (v := ?v3) rfl (by kernel_rfl) (by kernel_rfl) (by kernel_rfl) (fun _ _ _ h => h) (Or.inl ⟨by rfl, ?hy3⟩) (by assumption) ?rest3
            case hy3 => (intro w0 hSw; (try dsimp only at hSw); go_simp; try with_reducible rfl)
            try simp only [Act.put, List.getElem_toArray, List.getElem_cons_zero, List.getElem_cons_succ, List.setIfInBounds_toArray, List.set_cons_zero, List.set_cons_succ]
            refine wpAnyH_ready (rs := [3]) (by kernel_rfl) (by simp) ?_
            refine AllReadyH.cons rfl (fun KQ hKQ => ?_) AllReadyH.nil
            go_simp
            refine HCI.out.mono ?_
            rintro e wj ⟨rfl, hp⟩
            have HDJ := Lib.hid (HDI.out.drew.call (by decide) hp)
            have HRJ : Hid (∀ o, (wj.alloc o).ownsRow (M + 1) 3 1 v i (il.map intV)) := Lib.hid (fun o => own_below' (own_lvt hp.2 (by have := HNM.out; omega) (own_below' HRI.out (Below.refl _ _).drew)) (below_made wj o))
            clear hp
            refine hKQ.out _ _ ?_ (fun hHeld => ?_)
            · exact (cells7 HDJ.out.2).2.2.1
            clear hKQ KQ
            try simp only [Act.put, List.getElem_toArray, List.getElem_cons_zero, List.getElem_cons_succ, List.setIfInBounds_toArray, List.set_cons_zero, List.set_cons_succ]
            refine wpAnyH_ready (rs := [4]) (by kernel_rfl) (by simp) ?_
            refine AllReadyH.cons rfl (fun KQ hKQ => ?_) AllReadyH.nil
            go_simp
            refine hKQ.out _ _ ?_ (fun hHeld => ?_)
            · exact (cells7 (HDJ.out.made _).2).2.2.1
            clear hKQ KQ
            try simp only [Act.put, List.getElem_toArray, List.getElem_cons_zero, List.getElem_cons_succ, List.setIfInBounds_toArray, List.set_cons_zero, List.set_cons_succ]
            refine wpAnyH_ready (rs := [5]) (by kernel_rfl) (by simp) ?_
            refine AllReadyH.cons rfl (fun KQ hKQ => ?_) AllReadyH.nil
            refine step_append_lies _ (by rfl) (.tmp 53) (.tmp 56) 47 (by rfl) (M + 1) 3 j0 (.int .i64 0) 1 8 Tryd.underlying47 hj hy0 hy1 hy2 rfl (by decide) v i (il.map intV) (by rfl) (HRJ.out _) ⟨_, 0, none⟩ 1 1 [.int .i64 nx] (by rfl) (by rfl) (World.news_of_block (cs := #[.int .i64 nx]) (t := 3) (fr := (0, 0)) (heap_alloc_new _ _)) (by simp [Value.oneCell']) (by omega) (by unfold maxLen; omega) (by omega) (by have := (Array.getElem?_eq_some_iff.1 HDJ.out.2).1; rw [World.size_alloc]; omega) _ rfl ?_
            intro gb cap wk hown hg hat hlt
            have HDK := Lib.hid (HDJ.out.grown HMW.out HNL.out hg (fun j hj => by have := ((HRJ.out (.cells #[.int .i64 nx] 3)).lt j hj).1; omega))
            have HRK := Lib.hid hown
            clear hown hg hat hlt
            refine hKQ.out _ _ ?_ (fun hHeld => ?_)
            · exact (cells7 HDK.out.2).2.2.1
            clear hKQ KQ
            try simp only [Act.put, List.getElem_toArray, List.getElem_cons_zero, List.getElem_cons_succ, List.setIfInBounds_toArray, List.set_cons_zero, List.set_cons_succ]
            refine wpAnyH_take (i := 6) (v := ?v4) rfl (by kernel_rfl) (by kernel_rfl) (by kernel_rfl) (fun _ _ _ h => h) (Or.inl ⟨by rfl, ?hy4⟩) (by assumption) ?rest4
            case hy4 => (intro w0 hSw; (try dsimp only at hSw); go_simp; try with_reducible rfl)
            try simp only [Act.put, List.getElem_toArray, List.getElem_cons_zero, List.getElem_cons_succ, List.setIfInBounds_toArray, List.set_cons_zero, List.set_cons_succ]
            refine wpAnyH_done (by kernel_rfl) ?_ _
            change wpList _ _ _ _ _ _
            obtain ⟨z0, z1, z2, z3, z4, z5, z6, zf⟩ := cells7 HDK.out.2
            have zf2 := zf 2
            have HDL : Hid (OnB wr (N + 1) M 52 qj #[.string uid, .int .u8 (kd : Int), .slice (some ⟨gb, 0, none⟩) (i + 1) cap, .int .u8 0, .int .i64 0, .slice none 0 0, .int .i64 nn] (wk.setCell ⟨M, 2, none⟩ (.slice (some ⟨gb, 0, none⟩) (i + 1) cap))) := Lib.hid (HDK.out.put HMW.out HNL.out 2 _)
            have HRL : Hid ((wk.setCell ⟨M, 2, none⟩ (.slice (some ⟨gb, 0, none⟩) (i + 1) cap)).ownsRow (M + 1) 3 1 (.slice (some ⟨gb, 0, none⟩) (i + 1) cap) (i + 1) ((il ++ [nx]).map intV)) := Lib.hid (by
              have h1 := own_put (b := M) (j := 2) (z := .slice (some ⟨gb, 0, none⟩) (i + 1) cap) HRK.out (fun g hg => by have := (HRK.out.lt g hg).1; omega)
              rw [List.map_append]; exact h1)
            clear hHeld zf
            go_wp2_with fail
            go_roundg (gk - 1)
            case measure => omega
            case rel => exact ⟨i + 1, _, by omega, by go_num, by rw [HSI.out]; exact HRL.out, by rw [HSI.out]; exact HDL.out⟩
          · have hii : ¬ (i : Int) < (ci : Int) := by omega
            obtain rfl : i = ci := by omega
            have HNR2 : Hid (nodeR qk = (⟨uid, kd, il, (exprR 17 qi).1, nn⟩, (exprR 17 qi).2)) := Lib.hid (by rw [HNR.out, HQI.out])
            have HIL : Hid (il.length = i) := Lib.hid (by have := rowO_len (f := numO) i r4; rw [HQI.out] at this; exact this)
            have HCX := Lib.hid (HEX.out qi wi HDI.out.1.1)
            obtain ⟨x, hx⟩ : ∃ x, (exprR 17 qi).1 = x := ⟨_, rfl⟩
            obtain ⟨qx, hqx⟩ : ∃ x, (exprR 17 qi).2 = x := ⟨_, rfl⟩
            rw [hx, hqx] at HCX HNR2
            have HS2 : Hid (rowO nodeR (k + 1) q2 = (ll ++ [⟨uid, kd, il, x, nn⟩], qx)) := Lib.hid (by rw [HS.out, HNR2.out])
            obtain ⟨ai, cI, rfl, -, -⟩ := own_slice HRI.out
            clear hx hqx hic
            go_wp2_with fail
            refine HCX.out.mono ?_
            rintro e we ⟨va, rfl, hla, hp⟩
            obtain ⟨aa, ca, rfl, -⟩ := hla.form
            have HDE := Lib.hid (HDI.out.call (by decide) hp)
            have HRE := Lib.hid (own_lvt hp.2 (show N + 1 < M + 1 by have := HNM.out; omega) HRI.out)
            have HLA := Lib.hid hla
            obtain ⟨na, hna⟩ : ∃ na, x.args.length = na := ⟨_, rfl⟩
            have HNA := Lib.hid hna
            rw [hna] at HLA ⊢
            have HWS : Hid (M < wi.heap.size) := Lib.hid (Array.getElem?_eq_some_iff.1 HDI.out.2).1
            obtain ⟨x0, x1, x2, x3, x4, x5, x6, xf⟩ := cells7 HDE.out.2
            have xf3 := xf 3; have xf4 := xf 4; have xf5 := xf 5
            clear hla hp xf hna
            unfold exV
            go_upto_region 18 with fail
            obtain ⟨VE, hVE⟩ : ∃ VE, ((we.setCell ⟨M, 3, none⟩ (.int .u8 (x.op : Int))).setCell ⟨M, 4, none⟩ (.int .i64 x.n)).setCell ⟨M, 5, none⟩ (.slice aa na ca) = VE := ⟨_, rfl⟩
            rw [hVE]
            have HDX : Hid (OnB wr (N + 1) M 52 qx #[.string uid, .int .u8 (kd : Int), .slice ai i cI, .int .u8 (x.op : Int), .int .i64 x.n, .slice aa na ca, .int .i64 nn] VE) := Lib.hid (by rw [← hVE]; exact ((HDE.out.put HMW.out HNL.out 3 _).put HMW.out HNL.out 4 _).put HMW.out HNL.out 5 _)
            have HOK : Hid (RowOk (N + 1 + 1 + 1) VE ((⟨uid, kd, il, x, nn⟩ : Nd), .slice ai i cI, .slice aa na ca)) := Lib.hid (by
              rw [← hVE]
              have hne : ∀ g, (Value.slice ai i cI).ownBlock = some g → g ≠ M := fun g hg => by have := (HRE.out.lt g hg).1; omega
              have hh := HNM.out; have hw := HWS.out
              refine ⟨?_, ?_⟩
              · show World.ownsRow _ _ _ _ _ il.length _
                rw [HIL.out]
                exact own_more (own_put (own_put (own_put HRE.out hne) hne) hne) (by omega)
              · exact (Lies.put (Lies.put (Lies.put HLA.out (fun b hb => by have hb' : wi.heap.size ≤ b := hb; omega)) (fun b hb => by have hb' : wi.heap.size ≤ b := hb; omega)) (fun b hb => by have hb' : wi.heap.size ≤ b := hb; omega)).mono (fun b hb => by have hb' : wi.heap.size ≤ b := hb; omega))
            have HRV := Lib.hid (rows_lvt HR.out HDX.out.1.2 HO.out.1.1 (show N + 1 < N + 1 + 1 + 1 by omega))
            have HJV : Hid (OnB W1 (N + 1) (N + 1 + 1) 24 qx #[.int .i64 par, u] VE) := Lib.hid ⟨⟨HDX.out.1.1, HO.out.1.2.trans HDX.out.1.2⟩, HDX.out.1.2.ty HO.out.1.1 HO.out.2 (by decide)⟩
            have HRW : Hid (∀ o, (VE.alloc o).ownsRow (N + 1 + 1 + 1) 52 7 u k (flatR rows)) := Lib.hid (fun o => by have h1 := own_below' HRV.out.1 (below_made VE o); rw [HLN.out] at h1; exact h1)
            have HSZ : Hid (∀ o, N + 1 + 1 + 1 ≤ (VE.alloc o).heap.size) := Lib.hid (fun o => by rw [World.size_alloc]; have := (Array.getElem?_eq_some_iff.1 HJV.out.2).1; omega)
            obtain ⟨p0, p1, pf0, pf1⟩ := cells2 HJV.out.2
            clear hVE x0 x1 x2 x3 x4 x5 x6 xf3 xf4 xf5
            obtain ⟨x0, x1, x2, x3, x4, x5, x6, -⟩ := cells7 HDX.out.2
            have hk12 : (k : Int) ≤ 12 := by omega
            go_wp2_with (at_builtin; refine wpList_append_own _ rfl (.tmp 63) (.tmp 65) 22 rfl (N + 1 + 1 + 1) 52 i0 (.agg #[.string ⟨#[]⟩, .int .u8 0, .slice none 0 0, .int .u8 0, .int .i64 0, .slice none 0 0, .int .i64 0]) 7 96 Tryd.underlying22 hi hz0 hz1 hz2 rfl (by decide) _ _ _ rfl (HRW.out _) ⟨_, 0, none⟩ 1 1 (rowCells ((⟨uid, kd, il, x, nn⟩ : Nd), .slice ai i cI, .slice aa na ca)) rfl rfl (cells_new _ (rowCells ((⟨uid, kd, il, x, nn⟩ : Nd), .slice ai i cI, .slice aa na ca)) _) (by simp [rowCells, Value.oneCell']) (by unfold maxLen; omega) (by omega) (HSZ.out _) ?_)
            intro v' w9 k4 g4 _
            have HO9 := Lib.hid (HJV.out.grown HML.out HBL.out g4 (fun j hj => by have := (HRV.out.1.lt j hj).1; omega))
            have HR9 : Hid (NRowsAt (N + 1 + 1 + 1) w9 v' (rows ++ [((⟨uid, kd, il, x, nn⟩ : Nd), .slice ai i cI, .slice aa na ca)])) := Lib.hid (HRV.out.push HOK.out g4 (by rw [HLN.out]; exact k4))
            obtain ⟨av, cv, rfl⟩ : ∃ a c, v' = .slice a (k + 1) c := by
              obtain ⟨a, c, h⟩ := HR9.out.form
              exact ⟨a, c, by rw [h]; simp [HLN.out]⟩
            clear k4 g4 p0 p1 pf0 pf1
            obtain ⟨p0, p1, pf0, pf1⟩ := cells2 HO9.out.2
            have HOF : Hid (OnB W1 (N + 1) (N + 1 + 1) 24 qx #[.int .i64 par, .slice av (k + 1) cv] (w9.setCell ⟨N + 1 + 1, 1, none⟩ (.slice av (k + 1) cv))) := Lib.hid (HO9.out.put HML.out HBL.out 1 _)
            have HRF := Lib.hid (HR9.out.put (b := N + 1 + 1) (j := 1) (z := .slice av (k + 1) cv) (by omega))
            go_wp2_with fail
            go_roundg (G - 1)
            case measure => omega
            case rel => exact ⟨k + 1, rows ++ [((⟨uid, kd, il, x, nn⟩ : Nd), .slice ai i cI, .slice aa na ca)], _, by omega, by go_num, by simp [HLN.out], by rw [HS2.out, List.map_append, HMP.out]; rfl, HRF.out, by rw [HS2.out]; exact HOF.out⟩
      · have he' : (qk.err == 0) = false := by simp [he]
        have hne : (qk.err != 0) = true := by simp [he]
        have HTR : Hid (takeR s = ((0, []), qk.err)) := Lib.hid (by
          unfold takeR
          rw [HJ.out]
          show (if (rowO nodeR c q2).2.err ≠ 0 then _ else _) = _
          rw [HST.out (by omega) he, if_pos he])
        clear he
        have HZR : Hid (wr.heap[N]? = some (.cells #[.int .i64 0, .slice none 0 0] 24 (0, 0))) := Lib.hid (HO.out.1.2.ty HT1.out HZZ.out (by decide))
        obtain ⟨n0, n1, nf0, nf1⟩ := cells2 HZR.out
        go_wp2_with fail
        go_region
        go_wp2_with fail
        have HE3 := set2 (x' := .int .i64 0) (y' := .slice none 0 0) HZR.out
        have e0 : (((wr.setCell ⟨N, 0, none⟩ (.int .i64 0)).setCell ⟨N, 1, none⟩ (.slice none 0 0)).drew).cell? ⟨N, 0, none⟩ = some (.int .i64 0) := (cells2 HE3).1
        have e1 : (((wr.setCell ⟨N, 0, none⟩ (.int .i64 0)).setCell ⟨N, 1, none⟩ (.slice none 0 0)).drew).cell? ⟨N, 1, none⟩ = some (.slice none 0 0) := (cells2 HE3).2.1
        have hNN := HNN.out; have hS1 := HS1.out
        refine bodyPost_ret (v := .tuple #[.agg #[.int .i64 0, .slice none 0 0], .int .i64 qk.err]) (by simp [results, Tryd.f13, go_sem, e0, e1]) rfl ?_
        unfold RtPost
        rw [HTR.out]
        exact ⟨_, rfl, nodes_nil _, (((HBR.out).setCell (p := ⟨N, 0, none⟩) (by show w.heap.size ≤ N; omega) _).setCell (p := ⟨N, 1, none⟩) (by show w.heap.size ≤ N; omega) _).drew⟩
    · have hki : ¬ (k : Int) < (c : Int) := by omega
      have hkc2 : k = c := by omega
      by_cases he : qk.err = 0
      · have hne : (qk.err != 0) = false := by simp [he]
        have HJQ : Hid (jobR ⟨s, 0⟩ = ((par, ll), qk)) := Lib.hid (by rw [HJ.out, HAC.out hkc2, HQK.out])
        have HJO : Hid (jobO ⟨s, 0⟩ = ((par, ll), qk)) := Lib.hid (by
          obtain ⟨l1, l2⟩ := jobR_like ⟨s, 0⟩
          rw [← l2 (by rw [← l1, HJQ.out]; exact he), HJQ.out])
        have HTR : Hid (takeR s = if (mayO par ll).2 ≠ 0 ∨ qk.rest.size ≠ 0 then ((0, []), 2) else ((par, ll), 0)) := Lib.hid (by
          unfold takeR
          rw [HJQ.out, if_neg (by simp [he])])
        have HSM := Lib.hid (job_small HSS.out (by rw [HJO.out]; exact he))
        have HIM := Lib.hid (ins_small ⟨s, 0⟩)
        rw [HJO.out] at HSM HIM
        have HNO : Hid (Nodes wr u ll) := Lib.hid (by rw [← HMP.out]; exact HR.out.nodes)
        have HMY := Lib.hid (rmay_job par HNO.out HSM.out.1 (fun nd hn => ⟨(HSM.out.2 nd hn).1, by have := HIM.out nd hn; omega, (HSM.out.2 nd hn).2.2⟩))
        obtain ⟨au, cu, hu⟩ := HR.out.form
        rw [HLN.out] at hu
        subst hu
        have HZR : Hid (wr.heap[N]? = some (.cells #[.int .i64 0, .slice none 0 0] 24 (0, 0))) := Lib.hid (HO.out.1.2.ty HT1.out HZZ.out (by decide))
        obtain ⟨y0, y1, yf0, yf1⟩ := cells2 HO.out.2
        have HTE : Hid (∀ w', Below wr.heap.size wr w' → TextAt w' (N + 1) qk) := Lib.hid (fun w' hb => HO.out.1.1.under hb)
        clear he hkc2
        go_wp2_with fail
        refine HMY.out.mono ?_
        rintro e w9 ⟨ix, er, rfl, her, hb9⟩
        have HER := Lib.hid her; have HB9 := Lib.hid hb9
        have HO9 := Lib.hid (HO.out.under hb9)
        have HZ9 : Hid (w9.heap[N]? = some (.cells #[.int .i64 0, .slice none 0 0] 24 (0, 0))) := Lib.hid ((hb9.block N (Array.getElem?_eq_some_iff.1 HZR.out).1).trans HZR.out)
        have HBF : Hid (Below w.heap.size w w9) := Lib.hid (HBR.out.trans (hb9.mono HBR.out.size))
        have HR9 : Hid (NRowsAt (N + 1 + 1 + 1) w9 (.slice au k cu) rows) := Lib.hid (HR.out.below hb9)
        clear her hb9 t0 t1 tf0 tf1 y0 y1 yf0 yf1
        obtain ⟨t0, t1, tf0, tf1⟩ := HO9.out.1.1.cells
        obtain ⟨y0, y1, yf0, yf1⟩ := cells2 HO9.out.2
        obtain ⟨z0, z1, zf0, zf1⟩ := cells2 HZ9.out
        by_cases hrs : qk.rest = ⟨#[]⟩
        · have hrb : qk.rest.toList = [] := by rw [hrs]; exact nil_list
          by_cases her0 : er = 0
          · have HTF : Hid (takeR s = ((par, ll), 0)) := Lib.hid (by rw [HTR.out, if_neg (by rw [hrs]; rintro (h | h); exact h (HER.out.1 her0); exact h rfl)])
            subst her0
            clear hrs
            go_wp2_with fail
            have HE3 := set2 (x' := .int .i64 par) (y' := .slice au k cu) HZ9.out
            obtain ⟨e0, e1, -, -⟩ := cells2 HE3
            have hNN := HNN.out; have hS1 := HS1.out
            refine bodyPost_ret (v := .tuple #[.agg #[.int .i64 par, .slice au k cu], .int .i64 0]) (by simp [results, Tryd.f13, go_sem, e0, e1]) rfl ?_
            unfold RtPost
            rw [HTF.out]
            refine ⟨_, rfl, ?_, ((HBF.out).setCell (p := ⟨N, 0, none⟩) (by show w.heap.size ≤ N; omega) _).setCell (p := ⟨N, 1, none⟩) (by show w.heap.size ≤ N; omega) _⟩
            show Nodes _ _ ll
            rw [← HMP.out]
            exact ((HR9.out.put (b := N) (by omega)).put (b := N) (by omega)).nodes
          · have HTF : Hid (takeR s = ((0, []), 2)) := Lib.hid (by rw [HTR.out, if_pos (.inl (fun h => her0 (HER.out.2 h)))])
            have heb : (er != 0) = true := by simp [her0]
            clear hrs her0
            go_wp2_with fail
            have HE3 := set2 (x' := .int .i64 0) (y' := .slice none 0 0) HZ9.out
            obtain ⟨e0, e1, -, -⟩ := cells2 HE3
            have hNN := HNN.out; have hS1 := HS1.out
            refine bodyPost_ret (v := .tuple #[.agg #[.int .i64 0, .slice none 0 0], .int .i64 2]) (by simp [results, Tryd.f13, go_sem, e0, e1]) rfl ?_
            unfold RtPost
            rw [HTF.out]
            exact ⟨_, rfl, nodes_nil _, ((HBF.out).setCell (p := ⟨N, 0, none⟩) (by show w.heap.size ≤ N; omega) _).setCell (p := ⟨N, 1, none⟩) (by show w.heap.size ≤ N; omega) _⟩
        · have hrb : ¬ qk.rest.toList = [] := fun h => by have h1 := str_no hrs; rw [h, nil_list] at h1; simp at h1
          have HTF : Hid (takeR s = ((0, []), 2)) := Lib.hid (by rw [HTR.out, if_pos (.inr (fun h => hrs (by apply bl_inj; exact byt.bl_nil.2 h)))])
          clear hrs
          go_wp2_with fail
          have HE3 := set2 (x' := .int .i64 0) (y' := .slice none 0 0) HZ9.out
          obtain ⟨e0, e1, -, -⟩ := cells2 HE3
          have hNN := HNN.out; have hS1 := HS1.out
          refine bodyPost_ret (v := .tuple #[.agg #[.int .i64 0, .slice none 0 0], .int .i64 2]) (by simp [results, Tryd.f13, go_sem, e0, e1]) rfl ?_
          unfold RtPost
          rw [HTF.out]
          exact ⟨_, rfl, nodes_nil _, ((HBF.out).setCell (p := ⟨N, 0, none⟩) (by show w.heap.size ≤ N; omega) _).setCell (p := ⟨N, 1, none⟩) (by show w.heap.size ≤ N; omega) _⟩
      · have hne : (qk.err != 0) = true := by simp [he]
        have HTR : Hid (takeR s = ((0, []), qk.err)) := Lib.hid (by
          unfold takeR
          rw [HJ.out]
          show (if (rowO nodeR c q2).2.err ≠ 0 then _ else _) = _
          rw [HST.out (by omega) he, if_pos he])
        clear he
        have HZR : Hid (wr.heap[N]? = some (.cells #[.int .i64 0, .slice none 0 0] 24 (0, 0))) := Lib.hid (HO.out.1.2.ty HT1.out HZZ.out (by decide))
        obtain ⟨n0, n1, nf0, nf1⟩ := cells2 HZR.out
        go_wp2_with fail
        go_region
        go_wp2_with fail
        have HE3 := set2 (x' := .int .i64 0) (y' := .slice none 0 0) HZR.out
        have e0 : (((wr.setCell ⟨N, 0, none⟩ (.int .i64 0)).setCell ⟨N, 1, none⟩ (.slice none 0 0)).drew).cell? ⟨N, 0, none⟩ = some (.int .i64 0) := (cells2 HE3).1
        have e1 : (((wr.setCell ⟨N, 0, none⟩ (.int .i64 0)).setCell ⟨N, 1, none⟩ (.slice none 0 0)).drew).cell? ⟨N, 1, none⟩ = some (.slice none 0 0) := (cells2 HE3).2.1
        have hNN := HNN.out; have hS1 := HS1.out
        refine bodyPost_ret (v := .tuple #[.agg #[.int .i64 0, .slice none 0 0], .int .i64 qk.err]) (by simp [results, Tryd.f13, go_sem, e0, e1]) rfl ?_
        unfold RtPost
        rw [HTR.out]
        exact ⟨_, rfl, nodes_nil _, (((HBR.out).setCell (p := ⟨N, 0, none⟩) (by show w.heap.size ≤ N; omega) _).setCell (p := ⟨N, 1, none⟩) (by show w.heap.size ≤ N; omega) _).drew⟩
end Go.Proofs.YtnelfokfgnikfaaDoor.rf

/- Whether a table may be a node's. Tables by their places: the map of an ideal. -/
import Derived.Test.YtepdecnegihhhaaGreatDoorMJb
import Derived.Test.YtepdecnegihhhaaGreatDoorMTk
import Derived.Test.YtepdecnegihhhaaGreatDoorMOq
set_option linter.unusedSimpArgs false
set_option linter.unusedVariables false
namespace Go.Proofs.YtepdecnegihhhaaGreatDoor.idl
section
open Go.RowKit
open jb (Tab Ask askR askV asked_at askR_out box7)
open tbl (IsTab look look_mem mkC GetPost KeysPost Box2)
open opr (Nv nodeV NBox)
open grp (below_on' below_made ret_bool)
attribute [local go_sem ↓] Go.wp_at_zero Go.wp_at_succ
def statB (k : Nat) : Bool := k == 6 || k == 7
theorem stat_eq (k : Nat) : (jb.kindOk k && (askR k).keeps) = statB k := by
 by_cases h : k < 10
 · match k, h with
   | 0, _ | 1, _ | 2, _ | 3, _ | 4, _ | 5, _ | 6, _ | 7, _ | 8, _ | 9, _ => rfl
   | k + 10, h => exact absurd h (by omega)
 · have h1 : jb.kindOk k = false := by
    unfold jb.kindOk
    rw [decide_eq_false_iff_not]
    omega
   rw [h1]
   unfold statB
   have h6 : (k == 6) = false := by simp; omega
   have h7 : (k == 7) = false := by simp; omega
   rw [h6, h7]; rfl
set_option maxRecDepth 1000000 in
theorem stateful_any {w : World} (h : Tab w) (k : Nat) : Calls Tryz.prog 27 #[.int .u8 (k : Int)] w fun e w' => e = .returned (.bool (statB k)) ∧ Below w.heap.size w w' := by
 have HA := Lib.hid (asked_at h (k := k))
 have hs := stat_eq k
 unfold askV at HA
 obtain ⟨⟨few, many, ty, acc, least, most, keeps⟩, hr⟩ : ∃ R, askR k = R := ⟨_, rfl⟩
 rw [hr] at HA hs
 obtain ⟨ok, hok⟩ : ∃ b, jb.kindOk k = b := ⟨_, rfl⟩
 rw [hok] at HA hs
 dsimp only at HA hs
 have HS := Lib.hid hs
 have bx := fun (w : World) => @box7 w _ (.int .i64 few) (.int .i64 many) (.int .u8 (ty : Int)) (.bool acc) (.int .i64 least) (.int .i64 most) (.bool keeps) 124 rfl
 have HBX := Lib.hid bx
 clear hr hok hs bx h
 cases ok with
 | true =>
  go_enter Tryz.func27, Tryz.ntmps27
  go_wp2_with fail
  refine HA.out.mono ?_
  rintro e w1 ⟨rfl, hb1⟩
  obtain ⟨-, -, -, -, -, -, c6⟩ := HBX.out w1
  have HB1 := Lib.hid (below_on' hb1 (below_made w1 (.cells #[.int .i64 few, .int .i64 many, .int .u8 (ty : Int), .bool acc, .int .i64 least, .int .i64 most, .bool keeps] 124)))
  clear hb1
  go_wp2_with fail
  go_ret
  exact ⟨ret_bool (by have := HS.out; simpa using this), HB1.out⟩
 | false =>
  go_enter Tryz.func27, Tryz.ntmps27
  go_wp2_with fail
  refine HA.out.mono ?_
  rintro e w1 ⟨rfl, hb1⟩
  have HB1 := Lib.hid (below_on' hb1 (below_made w1 (.cells #[.int .i64 few, .int .i64 many, .int .u8 (ty : Int), .bool acc, .int .i64 least, .int .i64 most, .bool keeps] 124)))
  clear hb1
  go_wp2_with fail
  go_ret
  exact ⟨ret_bool (by have := HS.out; simpa using this), HB1.out⟩
def fitB (kd : Nat) (nn acc : Int) (many : Nat) : Bool := if kd = 6 then decide (many = 0) else decide (acc = 0) && decide (1 ≤ many) && decide ((many : Int) < nn)
set_option maxRecDepth 1000000 in
theorem fits_cell (nv : Nv) (c : tbl.Cv) (w : World) : Calls Tryz.prog 31 #[nodeV nv, mkC c] w fun e w' => e = .returned (.bool (fitB nv.kd nv.nn c.1 c.2.2.1)) ∧ Below w.heap.size w w' := by
 have hb1 := below_made w (.cells nv.cells 48)
 have hb2 := below_made (w.alloc (.cells nv.cells 48)) (.cells #[.int .i64 c.1, .slice c.2.1 c.2.2.1 c.2.2.2] 77)
 have HB := Lib.hid (below_on' hb1 hb2)
 have hx := Box2.new (w.alloc (.cells nv.cells 48)) c
 rw [World.size_alloc] at hx
 obtain ⟨d0, d1, -, -⟩ := hx.facts
 obtain ⟨c0, c1, c2, c3, c4, c5, c6⟩ := ((NBox.new w nv).below hb2).facts
 unfold nodeV mkC
 unfold Nv.cells at *
 obtain ⟨acc, ca, many, cc⟩ := c
 obtain ⟨s, kd, ia, il, ic, op, xn, xa, xl, xc, nn⟩ := nv
 dsimp only at *
 clear hb1 hb2 hx
 by_cases h6 : kd = 6
 · have h6' : ((kd : Int) == 6) = true := by simp; omega
   have HF : Hid (fitB kd nn acc many = decide (many = 0)) := Lib.hid (by unfold fitB; rw [if_pos h6])
   clear h6
   go_enter Tryz.func31, Tryz.ntmps31
   go_wp2_with fail
   go_ret
   exact ⟨ret_bool (by rw [HF.out]; rw [Bool.eq_iff_iff]; simp), HB.out⟩
 · have h6' : ((kd : Int) == 6) = false := by simp; omega
   have HF : Hid (fitB kd nn acc many = (decide (acc = 0) && decide (1 ≤ many) && decide ((many : Int) < nn))) := Lib.hid (by unfold fitB; rw [if_neg h6])
   clear h6
   by_cases hacc : acc = 0
   · subst hacc
     by_cases hm : 1 ≤ many
     · have hm' : (many : Int) ≥ 1 := by omega
       go_enter Tryz.func31, Tryz.ntmps31
       go_wp2_with fail
       all_goals (go_ret; exact ⟨ret_bool (by rw [HF.out]; simp [hm]; try omega), HB.out⟩)
     · have hm' : ¬ (many : Int) ≥ 1 := by omega
       go_enter Tryz.func31, Tryz.ntmps31
       go_wp2_with fail
       all_goals (go_ret; exact ⟨ret_bool (by rw [HF.out]; simp [hm]; try omega), HB.out⟩)
   · have ha' : (acc == 0) = false := by simpa using hacc
     go_enter Tryz.func31, Tryz.ntmps31
     go_wp2_with fail
     all_goals (go_ret; exact ⟨ret_bool (by rw [HF.out]; simp [hacc]), HB.out⟩)
def fitsB (kd : Nat) (nn : Int) (L : tbl.Rows) : Bool := statB kd && L.all fun p => fitB kd nn p.2.1 p.2.2.length
theorem fits_none {w : World} (ht : Tab w) (nv : Nv) : Calls Tryz.prog 13 #[nodeV nv, .pointer none] w fun e w' => e = .returned (.bool false) ∧ Below w.heap.size w w' := by
 have HB := Lib.hid (below_made w (.cells nv.cells 48))
 obtain ⟨c0, c1, c2, c3, c4, c5, c6⟩ := (NBox.new w nv).facts
 unfold nodeV
 unfold Nv.cells at *
 clear ht
 go_enter Tryz.func13, Tryz.ntmps13
 go_wp2_with fail
 go_ret
 exact ⟨rfl, HB.out⟩
set_option maxHeartbeats 1600000 in
set_option maxRecDepth 1000000 in
theorem fits_any {w : World} (ht : Tab w) (nv : Nv) {t b : Nat} {L : tbl.Rows} (h : IsTab w t b L) : Calls Tryz.prog 13 #[nodeV nv, .pointer (some ⟨t, 0, none⟩)] w fun e w' => e = .returned (.bool (fitsB nv.kd nv.nn L)) ∧ Below w.heap.size w w' := by
 have hb0 := below_made w (.cells nv.cells 48)
 have HB0 := Lib.hid hb0
 obtain ⟨c0, c1, c2, c3, c4, c5, c6⟩ := (NBox.new w nv).facts
 have HNB := Lib.hid (NBox.new w nv)
 have HS := Lib.hid (stateful_any (ht.on hb0) nv.kd)
 have HT := Lib.hid (h.below hb0)
 have HFC := Lib.hid (fun c w => fits_cell nv c w)
 obtain ⟨n, hn⟩ : ∃ n, L.length = n := ⟨_, rfl⟩
 have HN := Lib.hid hn
 have hlen := h.good.len
 rw [hn] at hlen
 have HKEYS := Lib.hid (fun w (h : IsTab w t b L) => tbl.keys_any h)
 obtain ⟨st, hst⟩ : ∃ st, statB nv.kd = st := ⟨_, rfl⟩
 have HFB : Hid (fitsB nv.kd nv.nn L = (st && L.all fun p => fitB nv.kd nv.nn p.2.1 p.2.2.length)) := Lib.hid (by unfold fitsB; rw [hst])
 rw [hst] at HS
 unfold nodeV at HFC ⊢
 obtain ⟨s, kd, ia, il, ic, op, xn, xa, xl, xc, nn⟩ := nv
 unfold Nv.cells at *
 dsimp only at *
 clear h ht hb0 hst hn
 cases st with
 | false =>
  go_enter Tryz.func13, Tryz.ntmps13
  go_wp2_with fail
  refine HS.out.mono ?_
  rintro e w1 ⟨rfl, hb1⟩
  have HB1 := Lib.hid (below_on' HB0.out hb1)
  clear hb1
  go_wp2_with fail
  go_ret
  exact ⟨ret_bool (by rw [HFB.out]; rfl), HB1.out⟩
 | true =>
  go_enter Tryz.func13, Tryz.ntmps13
  go_wp2_with fail
  refine HS.out.mono ?_
  rintro e w1 ⟨rfl, hb1⟩
  have HB1 := Lib.hid (below_on' HB0.out hb1)
  have HT1 := Lib.hid (HT.out.below hb1)
  have HN1 := Lib.hid (HNB.out.below hb1)
  have HK := Lib.hid (HKEYS.out w1 (HT.out.below hb1))
  unfold KeysPost at HK
  rw [HN.out] at HK
  clear hb1 c0 c1 c2 c3 c4 c5 c6
  go_wp2_with fail
  refine HK.out.mono ?_
  rintro e w2 ⟨ak, ck, rfl, hna, hb2⟩
  have HNA := Lib.hid hna
  have HB2 := Lib.hid (below_on' HB1.out hb2)
  have HT2 := Lib.hid (HT1.out.below hb2)
  have HN2 := Lib.hid (HN1.out.below hb2)
  clear hna hb2
  go_wp2_with fail
  go_loopg [20] n (fun g v20 wr => ∃ (k : Nat), k + g = n ∧ v20 = .int .i64 (k : Int) ∧ Hid ((L.take k).all (fun p => fitB kd nn p.2.1 p.2.2.length) = true) ∧ Hid (Below w2.heap.size w2 wr))
  case atStart => exact ⟨0, by omega, rfl, Lib.hid (by simp), Lib.hid (Below.refl _ _)⟩
  case round =>
   rename World => wr
   obtain ⟨k, hk, rfl, HALL, HBR⟩ := hrel
   by_cases hkn : k < n
   · have hki : (k : Int) < (n : Int) := by omega
     have hk0 : (0 : Int) ≤ (k : Int) := by omega
     have hkl : k < L.length := by have := HN.out; omega
     have hka : k < (L.map Prod.fst).length := by simpa using hkl
     obtain ⟨gb, o, cur, fr, rfl, hgb, hcur⟩ := (HNA.out.keep (.of_below HBR.out)).1 (by omega)
     have hck := cell_of_row wr gb (o + k) _ _ _ hgb
     rw [hcur k hka] at hck
     obtain ⟨p, hp⟩ : ∃ p, L[k] = p := ⟨_, rfl⟩
     have hpm : p ∈ L := hp ▸ List.getElem_mem hkl
     rw [show (L.map Prod.fst)[k] = p.1 by rw [← hp]; simp] at hck
     have hlk := look_mem HT2.out.good.ord hpm
     have hgp := tbl.get_any (HT2.out.below HBR.out) (HT2.out.good.key p hpm)
     unfold GetPost at hgp
     rw [hlk] at hgp
     dsimp only at hgp
     have HGP := Lib.hid hgp
     have HTK : Hid (L.take (k + 1) = L.take k ++ [p]) := Lib.hid (by rw [List.take_add_one, List.getElem?_eq_getElem hkl, hp]; rfl)
     have HIN : Hid (∀ q : Bool, q = false → fitB kd nn p.2.1 p.2.2.length = q → L.all (fun p => fitB kd nn p.2.1 p.2.2.length) = false) := Lib.hid (fun q hq hf => by
      rw [Bool.eq_false_iff]
      intro h
      have := List.all_eq_true.1 h p hpm
      rw [hf, hq] at this; cases this)
     clear hgb hcur hp hpm hlk hgp hka
     unfold mkC at HGP
     go_wp2_with fail
     refine HGP.out.mono ?_
     rintro e w3 ⟨⟨ca, cc, rfl, hna3⟩, hb3⟩
     have hbx := below_made w3 (.cells #[.int .i64 p.2.1, .slice ca p.2.2.length cc] 77)
     obtain ⟨x0, x1, -, -⟩ := (Box2.new w3 (p.2.1, ca, p.2.2.length, cc)).facts
     dsimp only at x0 x1
     obtain ⟨y0, y1, y2, y3, y4, y5, y6⟩ := (((HN2.out.below HBR.out).below hb3).below hbx).facts
     dsimp only at y0 y1 y2 y3 y4 y5 y6
     have HB3 := Lib.hid ((HBR.out.trans (hb3.mono HBR.out.size)).trans (hbx.mono (Nat.le_trans HBR.out.size hb3.size)))
     have HF3 := Lib.hid (HFC.out (p.2.1, ca, p.2.2.length, cc) (w3.alloc (.cells #[.int .i64 p.2.1, .slice ca p.2.2.length cc] 77)))
     unfold mkC at HF3
     dsimp only at HF3
     obtain ⟨q, hq⟩ : ∃ q, fitB kd nn p.2.1 p.2.2.length = q := ⟨_, rfl⟩
     have HQ := Lib.hid hq
     rw [hq] at HF3
     clear hna3 hb3 hbx hq HFC
     cases q with
     | false =>
      go_wp2_with fail
      refine HF3.out.mono ?_
      rintro e w4 ⟨rfl, hb4⟩
      have HB4 := Lib.hid (HB3.out.trans (hb4.mono HB3.out.size))
      clear hb4
      go_wp2_with fail
      try simp only [Exit.noGoto_ret, inBlock_ret, then_ret]
      go_ret
      exact ⟨ret_bool (by rw [HFB.out, HIN.out _ rfl HQ.out]; rfl), below_on' HB2.out HB4.out⟩
     | true =>
      go_wp2_with fail
      refine HF3.out.mono ?_
      rintro e w4 ⟨rfl, hb4⟩
      have HB4 := Lib.hid (HB3.out.trans (hb4.mono HB3.out.size))
      clear hb4
      go_wp2_with fail
      go_roundg (gk - 1)
      case measure => omega
      case rel => exact ⟨k + 1, by omega, by go_num, Lib.hid (by rw [HTK.out, List.all_append, HALL.out]; simp [HQ.out]), HB4⟩
   · have hki : ¬ (k : Int) < (n : Int) := by omega
     obtain rfl : k = n := by omega
     have HE : Hid (L.all (fun p => fitB kd nn p.2.1 p.2.2.length) = true) := Lib.hid (by have h1 := HALL.out; rw [List.take_of_length_le (by rw [HN.out]; exact Nat.le_refl _)] at h1; exact h1)
     clear hkn
     go_wp2_with fail
     try rw [Exit.noGoto_ret]
     go_ret
     exact ⟨ret_bool (by rw [HFB.out, HE.out]; rfl), below_on' HB2.out HBR.out⟩
end
section
open Go.RowKit
open tbl (IsTab kl key_is kl_ne lt_of_get own_again Only Two)
open grp (below_on' below_made ret_bool)
def RP (v : Value) : Option (DataW Value × List MemPlace) := match v with | .pointer _ => some (.held v, []) | _ => none
theorem RP_mk (p : Option Addr) : RP (.pointer p) = some (.held (.pointer p), []) := rfl
theorem RP_inv {v : Value} {y : DataW Value × List MemPlace} (h : RP v = some y) : ∃ p, v = .pointer p ∧ y = (.held (.pointer p), []) := by
 unfold RP at h
 split at h
 · exact ⟨_, rfl, (Option.some.inj h).symm⟩
 · cases h
theorem keyI : Maps.Keyed Tryz.prog 3 := Maps.int_keyed Tryz.underlying3
theorem key_at {k : Int} (h : grp.fits k) : keyOf Tryz.prog 3 (.int .i64 k) = some (kl k) := Maps.keyOf_int_mk Tryz.underlying3 (tbl.fits_key h)
def PtrAt (D : DataW Value) (T : Int → Option Nat) (k : Int) : Prop :=
 match T k with
 | none => Maps.has D (kl k) = false
 | some t => Maps.has D (kl k) = true ∧ ∀ z, D.atKey (kl k) z = .held (.pointer (some ⟨t, 0, none⟩))
def PtM (w : World) (m n : Nat) (T : Int → Option Nat) : Prop :=
 ∃ D, w.ownsMap Tryz.prog 3 RP m n D ∧ n ≤ 1000 ∧ ∀ k, grp.fits k → PtrAt D T k
theorem PtM.isMap {w : World} {m n : Nat} {T : Int → Option Nat} (h : PtM w m n T) : ∃ es clock, w.heap[m]? = some (.map es clock) := by
 obtain ⟨D, ⟨es, clock, hb, _⟩, _⟩ := h
 exact ⟨es, clock, hb⟩
theorem PtM.lt {w : World} {m n : Nat} {T : Int → Option Nat} (h : PtM w m n T) : m < w.heap.size := by obtain ⟨_, _, h1⟩ := h.isMap; exact lt_of_get h1
theorem PtM.keep {w w' : World} {m n : Nat} {T : Int → Option Nat} (h : PtM w m n T) (hb : w'.heap[m]? = w.heap[m]?) : PtM w' m n T := by
 obtain ⟨D, ⟨es, clock, h1, h2⟩, h3, h4⟩ := h
 exact ⟨D, ⟨es, clock, hb.trans h1, h2⟩, h3, h4⟩
theorem PtM.below {w w' : World} {m n : Nat} {T : Int → Option Nat} (h : PtM w m n T) (hb : Below w.heap.size w w') : PtM w' m n T := h.keep (hb.block m h.lt)
theorem PtM.made (w : World) : PtM (w.alloc (.map #[] 0)) w.heap.size 0 (fun _ => none) :=
 ⟨_, World.ownsMap_made _ _ _ _, by omega, fun k hk => rfl⟩
theorem zeroP (w : World) : (zeroValue 49).run Tryz.prog w = .ok (.pointer none) w := by kernel_rfl
def ptrV (o : Option Nat) : Value := match o with
 | none => .pointer none
 | some t => .pointer (some ⟨t, 0, none⟩)
theorem PtM.look {w : World} {m n : Nat} {T : Int → Option Nat} (h : PtM w m n T) {k : Int} (hk : grp.fits k) :
  (Instr.lookup 61 (.map (some m)) (.int .i64 k) false).run Tryz.prog w = .ok (ptrV (T k)) w := by
 obtain ⟨D, ho, hn, hD⟩ := h
 have := hD k hk
 unfold PtrAt at this
 obtain ⟨v', ps', hr', hv'⟩ := ho.lookup keyI Tryz.underlying61 (zeroP w) (RP_mk none) (key_at hk)
 obtain ⟨c2, rfl, e2⟩ := RP_inv hv'
 simp only [Prod.mk.injEq] at e2
 cases hT : T k with
 | none =>
  rw [hT] at this
  have hno : Maps.has D (kl k) = false := this
  rw [Maps.atKey_of_not_has hno] at e2
  have e3 := e2.1
  simp only [DataW.held.injEq] at e3
  rw [← e3] at hr'
  exact hr'
 | some t =>
  rw [hT] at this
  obtain ⟨h2, h3⟩ := this
  rw [h3] at e2
  have e3 := e2.1
  simp only [DataW.held.injEq] at e3
  rw [← e3] at hr'
  exact hr'
theorem PtM.store {w : World} {m n : Nat} {T : Int → Option Nat} (h : PtM w m n T) (hn : n < 1000) {k : Int} (hk : grp.fits k) (t : Nat) :
  ∃ w', (Instr.mapUpdate 61 (.map (some m)) (.int .i64 k) (.pointer (some ⟨t, 0, none⟩))).run Tryz.prog w = .ok () w' ∧ PtM w' m (n + 1) (fun x => if x = k then some t else T x) ∧ w.grownBy w' (some m) := by
 obtain ⟨D, ho, _, hD⟩ := h
 obtain ⟨w', hr, h1, h2⟩ := ho.update keyI Tryz.underlying61 (by unfold maxLen; omega) (key_at hk) (RP_mk (some ⟨t, 0, none⟩))
 refine ⟨w', hr, ⟨_, h1, by omega, fun x hx => ?_⟩, h2⟩
 unfold PtrAt
 dsimp only
 by_cases hkx : x = k
 · subst hkx
   rw [if_pos rfl]
   exact ⟨Maps.has_put_same ho.isMap (key_is x) _, fun z => Maps.atKey_put_same ho.isMap (key_is x) _ z⟩
 · rw [if_neg hkx]
   have := hD x hx
   unfold PtrAt at this
   split
   · rename_i hl; rw [hl] at this; rw [Maps.has_put_other (kl_ne hkx)]; exact this
   · rename_i c' hl
     rw [hl] at this
     obtain ⟨h4, h5⟩ := this
     exact ⟨by rw [Maps.has_put_other (kl_ne hkx)]; exact h4, fun z => by rw [Maps.atKey_put_other (kl_ne hkx)]; exact h5 z⟩
end
end Go.Proofs.YtepdecnegihhhaaGreatDoor.idl

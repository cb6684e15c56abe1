/- What Of answers: a table of the keys of some groups; a range over a table's map. -/
import Derived.Test.YtghpbhcnblninaaTbE
import Derived.Maps.Ext
namespace Go.Proofs.Ytghpbhcnblninaa.tbl
set_option linter.unusedSimpArgs false
set_option linter.unusedVariables false
open Go.RowKit
attribute [local go_sem ↓] Go.wp_at_zero Go.wp_at_succ
open Go.Proofs.Ytghpbhcnblninaa.grp (gof gof_in fits fits_wf IRow intV below_on' below_made ret_bool contains_any)

theorem look_filter (L : Rows) (f : Int → Bool) (x : Int) : look (L.filter (fun p => f p.1)) x = if f x = true then look L x else none := by
  induction L with
  | nil => simp [look_nil]
  | cons p L ih =>
    rw [List.filter_cons]
    by_cases hp : f p.1 = true
    · rw [if_pos hp, look_cons, ih, look_cons]
      by_cases hx : p.1 = x
      · rw [if_pos hx, if_pos hx, if_pos (by rw [← hx]; exact hp)]
      · rw [if_neg hx, if_neg hx]
    · rw [if_neg hp, ih, look_cons]
      by_cases hx : p.1 = x
      · rw [if_neg (by rw [← hx]; exact hp), if_neg (by rw [← hx]; exact hp)]
      · rw [if_neg hx]
/-- Fewer keys, fewer of a group. -/
theorem cnt_sub {A B : Rows} (hA : Ord A) (hB : Ord B) (h : ∀ k c, look A k = some c → look B k = some c) (g : Int) : cnt A g ≤ cnt B g := by
  have e : A = B.filter (fun p => (fun k => (look A k).isSome) p.1) := ord_ext hA (hB.filter _) (fun k => by
    rw [look_filter B (fun k => (look A k).isSome) k]
    cases hk : look A k with
    | none => simp
    | some c => simp [h k c hk])
  rw [e]
  exact (List.filter_sublist.filter _).length_le
/-- A key that is wanting may come. -/
theorem room_of {U L : Rows} (hU : Ord U) (hL : Ord L) (h : ∀ k c, look U k = some c → look L k = some c) {x : Int} {c : Cl} (hx : look U x = none) (hc : look L x = some c) : cnt U (gof x) + 1 ≤ cnt L (gof x) := by
  have h1 := cnt_sub (ord_put hU x c) hL (fun k c' hk => by
    rw [look_put] at hk
    split at hk
    · rename_i e; rw [← e, ← Option.some.inj hk]; exact hc
    · exact h k c' hk) (gof x)
  rw [cnt_put hU, if_pos ⟨hx, rfl⟩] at h1
  exact h1
theorem look_fits {L : Rows} (h : Good L) {k : Int} (hk : ¬ fits k) : look L k = none := by
  cases hl : look L k with
  | none => rfl
  | some c => exact absurd (h.key _ (mem_look hl)) hk
theorem good_ext {A B : Rows} (hA : Good A) (hB : Good B) (h : ∀ k, fits k → look A k = look B k) : A = B := ord_ext hA.ord hB.ord (fun k => by
  by_cases hk : fits k
  · exact h k hk
  · rw [look_fits hA hk, look_fits hB hk])

abbrev Rng (w : World) (b r n : Nat) (D : DataW Value) (left : Lit → Bool) (cnt : Nat) : Prop := w.ranges Try.prog 2 RH b r n D left cnt
theorem rng_same {w w' : World} {b r n : Nat} {D : DataW Value} {left : Lit → Bool} {cnt : Nat} (h : Rng w b r n D left cnt) (hb : w'.heap[b]? = w.heap[b]?) (hr : w'.heap[r]? = w.heap[r]?) : Rng w' b r n D left cnt := by
  obtain ⟨es, clock, since, seen, c0, h1, F, hs, hD, h2, rest⟩ := h
  exact ⟨es, clock, since, seen, c0, hb.trans h1, F, hs, hD, hr.trans h2, rest⟩
theorem rng_below {w w' : World} {b r n : Nat} {D : DataW Value} {left : Lit → Bool} {cnt : Nat} (h : Rng w b r n D left cnt) (hb : Below w.heap.size w w') : Rng w' b r n D left cnt :=
  rng_same h (hb.block b h.owns.lt) (hb.block r h.lt)
theorem rng_inv {key : Value} {l : Lit} (h : keyOf Try.prog 2 key = some l) : ∃ x, key = Value.int .i64 x := by
  obtain ⟨x, hx, _⟩ := Maps.keyOf_i64 Try.underlying2 h
  exact ⟨x, hx⟩
theorem rng_key {x : Int} {l : Lit} (h : keyOf Try.prog 2 (.int .i64 x) = some l) : l = kl x ∧ fits x := by
  obtain ⟨y, hy, e, hw⟩ := Maps.keyOf_i64 Try.underlying2 h
  have : x = y := encZ_inj hy
  subst this
  exact ⟨e, fits_wf hw⟩
/-- What comes of a range is a key's cell. -/
theorem rng_cell {w : World} {D : DataW Value} {L : Rows} {x : Int} {c : Cv} {y : DataW Value} (h : CellAt w D L x) (hv : RH (mkC c) = some (y, [])) (hat : ∀ z, D.atKey (kl x) z = y) : ∃ cl a cap, look L x = some cl ∧ NA w a cap cl.2 ∧ c = (cl.1, a, cl.2.length, cap) := by
  rw [RH_mk] at hv
  have hy : y = .held (mkC c) := by simpa using hv.symm
  unfold CellAt at h
  split at h
  · have := Maps.has_true_of_atKey hat
    rw [h] at this; cases this
  · rename_i cl hl
    obtain ⟨a, cap, h1, h2, h3⟩ := h
    refine ⟨cl, a, cap, hl, h1, ?_⟩
    have e := (hat .nil).symm.trans (h3 .nil)
    rw [hy] at e
    simp only [DataW.held.injEq, mkC, Value.agg.injEq, Array.mk.injEq, List.cons.injEq, Value.int.injEq, Value.slice.injEq, true_and, and_true] at e
    obtain ⟨c1, c2, c3, c4⟩ := c
    simp only at e
    obtain ⟨rfl, rfl, rfl, rfl⟩ := e
    rfl
theorem same_kl (a b : Int) : (kl a).sameKey (kl b) = decide (a = b) := by
  by_cases h : a = b
  · subst h; simp [WideAt.sameKey_self (key_is a)]
  · rw [Maps.sameKey_ne (kl_ne h)]; simp [h]
theorem NA.ne_tab {w : World} {t b : Nat} {L : Rows} {a : Option Addr} {cap : Nat} {l : List Int} (h : NA w a cap l) (ht : IsTab w t b L) : 0 < l.length → ∀ ad, a = some ad → ad.block ≠ t := fun hl ad e => by
  obtain ⟨g, o, cur, fr, e2, h2, _⟩ := h.1 hl
  rw [e] at e2
  obtain rfl := Option.some.inj e2
  intro e3
  have e3 : g = t := e3
  have := ht.obj
  unfold TabO at this
  rw [← e3, h2] at this
  cases this
/-- What is done of a table while it is gone over. -/
def Done (L U : Rows) (gs : List Int) (left : Lit → Bool) : Prop := ∀ x, fits x → look U x = if left (kl x) = true then none else if gof x ∈ gs then look L x else none
theorem Done.start (L : Rows) (gs : List Int) {w : World} {D : DataW Value} (hD : ∀ k, fits k → CellAt w D L k) : Done L [] gs (Maps.has D) := fun x hx => by
  rw [has_look (hD x hx), look_nil]
  cases look L x with
  | none => simp
  | some c => simp
theorem Done.skip {L U : Rows} {gs : List Int} {left : Lit → Bool} {x : Int} (h : Done L U gs left) (hx : left (kl x) = true) (hg : gof x ∉ gs) : Done L U gs (fun z => left z && !z.sameKey (kl x)) := fun y hy => by
  rw [h y hy]
  simp only [same_kl]
  by_cases e : y = x
  · subst e; simp [hx, hg]
  · simp [e]
theorem Done.put {L U : Rows} {gs : List Int} {left : Lit → Bool} {x : Int} {c : Cl} (h : Done L U gs left) (hx : left (kl x) = true) (hf : fits x) (hg : gof x ∈ gs) (hc : look L x = some c) : Done L (putL U x c) gs (fun z => left z && !z.sameKey (kl x)) := fun y hy => by
  rw [look_put, h y hy]
  simp only [same_kl]
  by_cases e : x = y
  · subst e; simp [hg, hc]
  · simp [e, Ne.symm e]
theorem Done.sub {L U : Rows} {gs : List Int} {left : Lit → Bool} (h : Done L U gs left) (hU : Good U) : ∀ k c, look U k = some c → look L k = some c := fun k c hk => by
  have hf := (hU.fine hk).1
  rw [h k hf] at hk
  split at hk
  · cases hk
  · split at hk
    · exact hk
    · cases hk
theorem Done.end {L U : Rows} {gs : List Int} {left : Lit → Bool} (h : Done L U gs left) (hU : Good U) (hL : Good L) (hl : ∀ l, left l = false) : U = ofL L gs := good_ext hU (hL.of gs) (fun k hk => by
  rw [h k hk, look_of, hl]; simp)
theorem Done.room {L U : Rows} {gs : List Int} {left : Lit → Bool} {x : Int} {c : Cl} (h : Done L U gs left) (hU : Good U) (hL : Good L) (hx : left (kl x) = true) (hf : fits x) (hc : look L x = some c) : putO U x c = (0, putL U x c) := by
  have hn : look U x = none := by rw [h x hf, if_pos hx]
  have h1 := room_of hU.ord hL.ord (h.sub hU) hn hc
  have h2 := hL.full (gof x)
  have h3 := (hL.fine hc).2.few
  unfold putO
  rw [if_neg (by omega), if_neg (fun e => by have := e.2; omega)]
theorem of_nil (v : Value) (w : World) : Calls Try.prog 16 #[.pointer none, v] w fun e w' => e = .returned (.pointer none) ∧ w' = w := by
  go_enter Try.func16, Try.ntmps16
  go_wp2_with fail
  go_ret
  exact ⟨rfl, rfl⟩
/-- The round's relation. -/
def OfRel (w wr : World) (t' b' b r n : Nat) (D : DataW Value) (L : Rows) (gs : List Int) : Prop :=
  ∃ left cnt U, Rng wr b r n D left cnt ∧ IsTab wr t' b' U ∧ Done L U gs left ∧ Below w.heap.size w wr
set_option maxHeartbeats 3200000 in
set_option maxRecDepth 1000000 in
theorem of_any {w : World} {t b : Nat} {L : Rows} (h : IsTab w t b L) {v : Value} {gs : List Int} (hv : IRow w v gs) (hl : gs.length ≤ 1000000) :
    Calls Try.prog 16 #[.pointer (some ⟨t, 0, none⟩), v] w fun e w' => ∃ t' b', e = .returned (.pointer (some ⟨t', 0, none⟩)) ∧ MadeT w.heap.size w w' t' b' (ofL L gs) := by
  obtain ⟨D, ho, hs, hD, hk⟩ := h.map.keys h.good
  have HH := Lib.hid h
  have HO := Lib.hid ho
  have HD := Lib.hid hD
  have HV := Lib.hid hv
  have m0 := h.obj.cells.1
  have HLL := Lib.hid hl
  clear h ho hs hD hk hv
  go_enter Try.func16, Try.ntmps16
  go_wp2_with fail
  refine (new_any w).mono ?_
  rintro e w1 ⟨t', b', rfl, ht, hwt, hwb, hb1⟩
  have HT1 := Lib.hid ht
  have HB1 := Lib.hid hb1
  have m1 := (HH.out.obj.keep (hb1.block t HH.out.lt.1)).cells.1
  have ho1 : w1.ownsMap Try.prog 2 RH b L.length D := by
    obtain ⟨es, ck, h1, h2⟩ := HO.out
    exact ⟨es, ck, (hb1.block b HH.out.lt.2.1).trans h1, h2⟩
  clear ht hb1 m0
  go_wp2_with (at_range; refine wpList_range_own _ rfl _ 65 rfl 2 32 key64 Try.underlying65 RH b L.length D rfl ho1 ?_; intro w0 hrg0 hg0 _)
  go_frame
  go_loopw [6] (fun _ wr => OfRel w wr t' b' b w1.heap.size L.length D L gs) (fun _ wr => wr.rangeLeft b w1.heap.size)
  case atStart =>
    have hbb : Below w1.heap.size w1 w0 := ⟨hg0.os, hg0.tape, hg0.output, hg0.size, fun k hk => hg0.block k hk (by simp)⟩
    exact ⟨_, _, [], hrg0, HT1.out.below hbb, Done.start L gs HD.out, below_on' HB1.out hbb⟩
  case round =>
    obtain ⟨left, cnt, U, hrg, htU, hdn, hbw⟩ := hrel
    have HTU := Lib.hid htU
    have HDN := Lib.hid hdn
    have HBW := Lib.hid hbw
    have HRG := Lib.hid hrg
    clear htU hdn hbw
    go_wp2_with (at_next; go_loud (refine wpList_next_ranges _ rfl _ rfl 2 key64 RH encZ mkC (fun key kl0 hk => rng_inv hk) (fun v y hv => by obtain ⟨c, rfl, _⟩ := RH_inv hv; exact ⟨c, rfl⟩) b w1.heap.size L.length _ _ _ rfl HRG.out ?_ ?_))
    · intro hc0 hl0
      have HF := Lib.hid (HDN.out.end HTU.out.good HH.out.good hl0)
      go_wp2_with fail
      go_ret
      rw [← HF.out]
      exact ⟨t', b', rfl, HTU.out, hwt, hwb, HBW.out⟩
    · intro x c1 c2 c3 c4 kl0 yd yp w2 cnt2 hkey hlk hv hat hrg2 hlt2 hg2 hs2 hen
      obtain ⟨rfl, hfx⟩ := rng_key hkey
      have hyp : yp = [] := by rw [RH_mk] at hv; simpa using (congrArg Prod.snd (Option.some.inj hv)).symm
      subst hyp
      obtain ⟨cl, a, cap, hlx, hna, ec⟩ := rng_cell (HD.out x hfx) hv hat
      simp only [Prod.mk.injEq] at ec
      obtain ⟨rfl, rfl, rfl, rfl⟩ := ec
      have hb2 : Below w.heap.size w w2 := HBW.out.grown hg2 HBW.out.size (fun k hk => by cases hk; exact HB1.out.size)
      have hrows2 : Rows2 wr w2 := .of_only (F := fun i => i = w1.heap.size) (.of_grown hg2 (fun k hk => by cases hk; rfl)) (fun g cur fr hg he => by
        obtain ⟨es, ck, since, seen, c0, _, _, _, _, h5, _⟩ := HRG.out
        rw [hg, h5] at he; cases he)
      have ht2 : IsTab w2 t' b' U := HTU.out.keep (hg2.block t' HTU.out.lt.1 (fun e => by have := HT1.out.lt.1; have := Option.some.inj e; omega)) (hg2.block b' HTU.out.lt.2.1 (fun e => by have := HT1.out.lt.2.1; have := Option.some.inj e; omega)) hrows2
      have HB2 := Lib.hid hb2
      have HT2 := Lib.hid ht2
      have HR2 := Lib.hid hrg2
      have HNA := Lib.hid (hna.keep (.of_below hb2))
      have HLX := Lib.hid hlx
      have HLK := Lib.hid hlk
      have HFX := Lib.hid hfx
      have HOF := Lib.hid (fun w => grp.of_any x w hfx)
      have hlt3 := Nat.lt_of_lt_of_eq hlt2 hrg.left_eq.symm
      have HM := Lib.hid hlt3
      unfold mkC at hen
      dsimp only at hen
      clear hs2 hlt2 hg2 hat hv hkey hrg2 hb2 ht2 hna hlx hlk hfx hrows2 hlt3 hrg
      have hb3 : Below w2.heap.size w2 (w2.alloc (.cells #[.int .i64 cl.1, .slice c2 cl.2.length c4] 32)) := below_made _ _
      have hbx := Box2.new w2 (cl.1, c2, cl.2.length, c4)
      obtain ⟨W3, hW3⟩ : ∃ W, w2.alloc (.cells #[.int .i64 cl.1, .slice c2 cl.2.length c4] 32) = W := ⟨_, rfl⟩
      dsimp only at hbx
      rw [hW3] at hb3 hbx
      have HW3 := Lib.hid hW3
      obtain ⟨N, hN⟩ : ∃ N, w2.heap.size = N := ⟨_, rfl⟩
      have HNN := Lib.hid hN
      rw [hN] at hbx
      have HB3 := Lib.hid (below_on' HB2.out hb3)
      have HT3 := Lib.hid (HT2.out.below hb3)
      have HR3 := Lib.hid (rng_below HR2.out hb3)
      have HNA3 := Lib.hid (HNA.out.keep (.of_below hb3))
      obtain ⟨x0, x1, -, -⟩ := hbx.facts
      dsimp only at x0 x1
      have HCON := Lib.hid (contains_any (HV.out.on HB3.out) HLL.out (gof x))
      clear hb3 hbx hW3 hN
      by_cases hg : gof x ∈ gs
      · have HPU := Lib.hid (put_any HT3.out HFX.out (HH.out.good.fine HLX.out).2.acc (HH.out.good.fine HLX.out).2.all HNA3.out.sl (HNA3.out.ne_tab HT3.out) (by have := (HH.out.good.fine HLX.out).2.few; omega))
        have HDP := Lib.hid (HDN.out.put HLK.out HFX.out hg HLX.out)
        have HRO := Lib.hid (HDN.out.room HTU.out.good HH.out.good HLK.out HFX.out HLX.out)
        rw [show decide (gof x ∈ gs) = true from by simp [hg]] at HCON
        clear hg
        go_wp2_with fail
        rw [HW3.out, HNN.out]
        refine (HOF.out _).mono ?_
        rintro e w4 ⟨rfl, rfl⟩
        go_wp2_with fail
        refine HCON.out.mono ?_
        rintro e w4 ⟨rfl, rfl⟩
        go_wp2_with fail
        refine HPU.out.mono ?_
        intro e w5 hp
        unfold PutPost at hp
        rw [HRO.out] at hp
        obtain ⟨rfl, ht5, ho5⟩ := hp
        have hr5 := rng_same HR3.out (ho5.block b HR3.out.owns.lt (fun e => by have := HH.out.lt.2.1; rcases e with e | e <;> omega)) (ho5.block _ HR3.out.lt (fun e => by have := HT1.out.lt.1; have := HT1.out.lt.2.1; rcases e with e | e <;> omega))
        have HREL : Hid (OfRel w w5 t' b' b w1.heap.size L.length D L gs) := Lib.hid ⟨_, _, _, hr5, ht5, HDP.out, below_only HB3.out ho5 hwt hwb⟩
        have HMS : Hid (w5.rangeLeft b w1.heap.size < wr.rangeLeft b w1.heap.size) := Lib.hid (by rw [hr5.left_eq]; exact HM.out)
        clear ht5 ho5 hr5
        go_wp2_with fail
        go_roundw
        case rel => exact HREL.out
        case measure => exact HMS.out
      · have HDP := Lib.hid (HDN.out.skip HLK.out hg)
        rw [show decide (gof x ∈ gs) = false from by simp [hg]] at HCON
        clear hg
        go_wp2_with fail
        rw [HW3.out, HNN.out]
        refine (HOF.out _).mono ?_
        rintro e w4 ⟨rfl, rfl⟩
        go_wp2_with fail
        refine HCON.out.mono ?_
        rintro e w4 ⟨rfl, rfl⟩
        have HREL : Hid (OfRel w w4 t' b' b w1.heap.size L.length D L gs) := Lib.hid ⟨_, _, _, HR3.out, HT3.out, HDP.out, HB3.out⟩
        have HMS : Hid (w4.rangeLeft b w1.heap.size < wr.rangeLeft b w1.heap.size) := Lib.hid (by rw [HR3.out.left_eq]; exact HM.out)
        go_wp2_with fail
        go_roundw
        case rel => exact HREL.out
        case measure => exact HMS.out
end Go.Proofs.Ytghpbhcnblninaa.tbl

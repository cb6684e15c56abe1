/- What Copy and Bytes answer. -/
import Derived.Test.YtghpbhcnblninaaTbGb
namespace Go.Proofs.Ytghpbhcnblninaa.tbl
set_option linter.unusedSimpArgs false
set_option linter.unusedVariables false
open Go.RowKit
attribute [local go_sem ↓] Go.wp_at_zero Go.wp_at_succ
open Go.Proofs.Ytghpbhcnblninaa.grp (gof gof_in fits fits_wf IRow intV below_on' below_made ret_bool own_below)

theorem join_new {L : Rows} (hL : Good L) : joinO [] L = (0, L) := by
  have ha : Apart [] L := fun p _ => look_nil _
  rw [join_ok ha (fun g _ => by rw [cnt_nil]; have := hL.full (g : Int); omega)]
  congr 1
  exact ord_ext (ord_join List.Pairwise.nil) hL.ord (fun k => by rw [look_join hL.ord, look_nil]; simp)
theorem copy_nil (w : World) : Calls Try.prog 21 #[.pointer none] w fun e w' => e = .returned (.pointer none) ∧ w' = w := by
  go_enter Try.func21, Try.ntmps21
  go_wp2_with fail
  go_ret
  exact ⟨rfl, rfl⟩
theorem copy_any {w : World} {t b : Nat} {L : Rows} (h : IsTab w t b L) : Calls Try.prog 21 #[.pointer (some ⟨t, 0, none⟩)] w fun e w' => ∃ t' b', e = .returned (.pointer (some ⟨t', 0, none⟩)) ∧ MadeT w.heap.size w w' t' b' L := by
  have HH := Lib.hid h
  clear h
  go_enter Try.func21, Try.ntmps21
  go_wp2_with fail
  refine (new_any w).mono ?_
  rintro e w1 ⟨t', b', rfl, ht, hwt, hwb, hb1⟩
  have HT := Lib.hid ht
  have HB := Lib.hid hb1
  have hne : t ≠ t' ∧ b ≠ b' := by have := HH.out.lt; exact ⟨by omega, by omega⟩
  have HJ := Lib.hid (join_any ht (HH.out.below hb1) hne)
  clear ht hb1 hne
  go_wp2_with fail
  refine HJ.out.mono ?_
  intro e w2 hp
  unfold JoinPost at hp
  rw [join_new HH.out.good] at hp
  obtain ⟨rfl, ht2, ho2⟩ := hp
  have HT2 := Lib.hid ht2
  have HB2 := Lib.hid (below_only HB.out ho2 hwt hwb)
  clear ht2 ho2
  go_wp2_with fail
  go_ret
  exact ⟨t', b', rfl, HT2.out, hwt, hwb, HB2.out⟩
/-- What a look into the map gives, also later. -/
theorem TabM.look_far {w : World} {b : Nat} {L : Rows} (h : TabM w b L) {k : Int} (hk : fits k) {c : Cl} (hc : look L k = some c) : ∃ a cap, NA w a cap c.2 ∧ ∀ w' : World, w'.heap[b]? = w.heap[b]? →
    (Instr.lookup 65 (.map (some b)) (.int .i64 k) false).run Try.prog w' = .ok (mkC (c.1, a, c.2.length, cap)) w' := by
  obtain ⟨D, ho, hs, hD⟩ := h
  have := hD k hk
  unfold CellAt at this
  rw [hc] at this
  obtain ⟨a, cap, h1, h2, h3⟩ := this
  refine ⟨a, cap, h1, fun w' hb => ?_⟩
  obtain ⟨v', ps', hr', hv'⟩ := (own_again ho hb).lookup key64 Try.underlying65 (zeroC w') (RH_mk _) (key_of hk)
  rw [h3] at hv'
  obtain ⟨c2, rfl, e2⟩ := RH_inv hv'
  simp only [Prod.mk.injEq, DataW.held.injEq] at e2
  rw [← e2.1] at hr'
  exact hr'
/-- The numbers of some rows. -/
def rowN (p : Int × Cl) : List Int := p.1 :: p.2.1 :: (p.2.2.length : Int) :: p.2.2
def numsK (L : Rows) (k : Nat) : List Int := (L.length : Int) :: (L.take k).flatMap rowN
theorem numsK_all (L : Rows) : numsK L L.length = numsL L := by unfold numsK numsL; rw [List.take_length]; rfl
theorem numsK_zero (L : Rows) : numsK L 0 = [(L.length : Int)] := by simp [numsK]
theorem numsK_more {L : Rows} {k : Nat} (hk : k < L.length) : numsK L (k + 1) = (numsK L k ++ [L[k].1, L[k].2.1, (L[k].2.2.length : Int)]) ++ L[k].2.2 := by
  unfold numsK
  rw [List.take_succ_eq_append_getElem hk, List.flatMap_append]
  simp [rowN]
theorem numsK_len {L : Rows} (h : Good L) : ∀ k, (numsK L k).length ≤ 1 + 19 * k := by
  intro k
  induction k with
  | zero => simp [numsK]
  | succ k ih =>
    rcases Nat.lt_or_ge k L.length with hk | hk
    · rw [numsK_more hk]
      have := (h.cell L[k] (List.getElem_mem hk)).few
      simp only [List.length_append, List.length_cons, List.length_nil]
      omega
    · have e : numsK L (k + 1) = numsK L k := by unfold numsK; rw [List.take_of_length_le (by omega), List.take_of_length_le hk]
      rw [e]; omega
theorem numsL_fits {L : Rows} (h : Good L) : ∀ n ∈ numsL L, byt.fits n := by
  intro n hn
  unfold numsL at hn
  rcases List.mem_cons.1 hn with rfl | hn
  · have := h.len; exact ⟨by omega, by omega⟩
  · obtain ⟨p, hp, hn⟩ := List.mem_flatMap.1 hn
    have hc := h.cell p hp
    have hk := h.key p hp
    rcases List.mem_cons.1 hn with rfl | hn
    · exact hk
    · rcases List.mem_cons.1 hn with rfl | hn
      · exact hc.acc
      · rcases List.mem_cons.1 hn with rfl | hn
        · have := hc.few; exact ⟨by omega, by omega⟩
        · exact hc.all n hn
theorem own_new (w : World) (l : List Int) (n : Nat) (hn : l.length = n) (h0 : n ≤ 1000000) : (w.alloc (.cells (l.map intV).toArray 2)).ownsRow w.heap.size 2 1 (.slice (some ⟨w.heap.size, 0, none⟩) n n) n (l.map intV) := by
  subst hn
  exact ⟨by simp, .inr ⟨w.heap.size, l.length, _, rfl, Nat.le_refl _, Go.heap_alloc_new w _, Nat.le_refl _, by unfold maxLen; omega, by simp, by rw [Nat.mul_one, List.take_of_length_le (by simp)]⟩⟩
theorem own_le {w : World} {B B' e n : Nat} {v : Value} {xs : List Value} (h : w.ownsRow B e 1 v n xs) (hB : B' ≤ B) : w.ownsRow B' e 1 v n xs := by
  obtain ⟨h1, h2⟩ := h
  refine ⟨h1, ?_⟩
  rcases h2 with h2 | ⟨g, cap, cur, r1, r2, r3⟩
  · exact .inl h2
  · exact .inr ⟨g, cap, cur, r1, Nat.le_trans hB r2, r3⟩
theorem own_len {w : World} {B e n : Nat} {v : Value} {xs : List Int} (h : w.ownsRow B e 1 v n (xs.map intV)) : w.ownsRow B e 1 v xs.length (xs.map intV) := by
  have hn : n = xs.length := by have := h.1; simpa using this.symm
  rw [← hn]; exact h
theorem wpList_app {P : Program} {w w' : World} {ops : Array Oper} {rest : List Oper} {o : Oper} {a : Act} {Q : Exit → Act → World → Prop} {v u r : Value} (hg : o.guard = none) (s x : Operand) (t : TypeId)
    (ho : o.op = .call { callee := .builtin .append, args := #[s, x], argTypes := #[t, t] }) (hs : a.eval s = v) (hx : a.eval x = u) (hr : (Builtin.append_ #[t, t] o.type #[v, u]).run P w = .ok r w')
    (h : wpList P ops Q rest (a.put o.dst r) w') : wpList P ops Q (o :: rest) a w := by
  refine wpList_plain hg fun K' hK' => ?_
  unfold Oper.wp execOp
  simp only [ho, resolve, invoke, builtin, Sem.run_bind, Sem.run_pure, Result.andThen_ok, List.map_toArray, List.map_cons, List.map_nil, hs, hx, hr]
  exact hK' _ _ h
def tabB (L : Rows) : ByteArray := byt.txt (byt.flat (numsL L))
def BytesRel (w wr : World) (L : Rows) (v4 : Value) (k : Nat) : Prop := wr.ownsRow w.heap.size 2 1 v4 (numsK L k).length ((numsK L k).map intV) ∧ Below w.heap.size w wr
theorem bytes_nil (w : World) : Calls Try.prog 13 #[.pointer none] w fun e w' => e = .returned (.string ⟨#[]⟩) ∧ w' = w := by
  go_enter Try.func13, Try.ntmps13
  go_wp2_with fail
  go_ret
  exact ⟨rfl, rfl⟩
set_option maxHeartbeats 1600000 in
set_option maxRecDepth 1000000 in
theorem bytes_any {w : World} {t b : Nat} {L : Rows} (h : IsTab w t b L) : Calls Try.prog 13 #[.pointer (some ⟨t, 0, none⟩)] w fun e w' => e = .returned (.string (tabB L)) ∧ Below w.heap.size w w' := by
  have HH := Lib.hid h
  have HKS := Lib.hid (keys_any h)
  have hlen := h.good.len
  clear h
  obtain ⟨n, hn⟩ : ∃ n, L.length = n := ⟨_, rfl⟩
  have HN := Lib.hid hn
  rw [hn] at hlen
  go_enter Try.func13, Try.ntmps13
  go_wp2_with fail
  refine HKS.out.mono ?_
  rintro e w1 ⟨a, cap, rfl, hna, hb⟩
  have HNA := Lib.hid hna
  have HB := Lib.hid hb
  have hr0 : BytesRel w1 (w1.alloc (.cells #[.int .i64 (n : Int)] 2)) L (.slice (some ⟨w1.heap.size, 0, none⟩) 1 1) 0 := by
    unfold BytesRel
    rw [numsK_zero, hn]
    exact ⟨own_new w1 [(n : Int)] 1 rfl (by omega), below_made _ _⟩
  have HH1 := Lib.hid (HH.out.below hb)
  have HR0 := Lib.hid hr0
  clear hna hb hr0
  rw [hn]
  clear hn
  go_wp2_with fail
  go_loopg [4, 17] n (fun g v4 v17 wr => ∃ k : Nat, k + g = n ∧ v17 = .int .i64 k ∧ BytesRel w1 wr L v4 k)
  case atStart => exact ⟨0, by omega, rfl, HR0.out⟩
  case round =>
    rename World => wr
    obtain ⟨k, hkg, rfl, hrel⟩ := hrel
    have HRL := Lib.hid hrel
    have HB1 := Lib.hid hrel.2
    clear hrel
    cases gk with
    | zero =>
      have hkz : ¬ ((k : Int) < (n : Int)) := by omega
      obtain rfl : k = n := by omega
      have ho := HRL.out.1
      rw [← HN.out, numsK_all] at ho
      obtain ⟨-, a5, cap5, hv5, hna5⟩ := NR.own ho
      have HNA5 := Lib.hid hna5
      have hl5 : (numsL L).length ≤ 1000000 := by have := numsK_len HH.out.good L.length; rw [numsK_all] at this; have := HH.out.good.len; omega
      have HP := Lib.hid (byt.put_any (numsL L) a5 cap5 wr hna5.1.rd (numsL_fits HH.out.good) hl5)
      unfold byt.PutPost at HP
      rw [hv5]
      clear ho hna5 hv5 hl5
      go_wp2_with fail
      refine HP.out.mono ?_
      rintro e w6 ⟨rfl, hb6⟩
      have HB6 := Lib.hid (below_on' HB.out (below_on' HRL.out.2 hb6))
      clear hb6
      go_wp2_with fail
      try rw [Exit.noGoto_ret]
      go_ret
      exact ⟨rfl, HB6.out⟩
    | succ g =>
      have hkz : (k : Int) < (n : Int) := by omega
      have hkl : k < L.length := by have := HN.out; omega
      have hka : k < (L.map Prod.fst).length := by simpa using hkl
      obtain ⟨gb, o, cur, fr, rfl, hgb, hcur⟩ := (HNA.out.keep (.of_below HB1.out)).1 (by omega)
      have hck := cell_of_row wr gb (o + k) _ _ _ hgb
      rw [hcur k hka] at hck
      obtain ⟨p, hp⟩ : ∃ p, L[k] = p := ⟨_, rfl⟩
      have hpm : p ∈ L := hp ▸ List.getElem_mem hkl
      rw [show (L.map Prod.fst)[k] = p.1 by rw [← hp]; simp] at hck
      have hbw := HRL.out.2
      have htb := HH1.out.below hbw
      have hm0 := htb.obj.cells.1
      have hlk := look_mem HH.out.good.ord hpm
      obtain ⟨a2, cap2, hna2, hlo⟩ := HH1.out.map.look_far (HH.out.good.key p hpm) hlk
      have hlo := hlo wr (hbw.block b HH1.out.lt.2.1)
      unfold mkC at hlo
      dsimp only at hlo
      have hfi := HH.out.good.cell p hpm
      have hmore := numsK_more hkl
      rw [hp] at hmore
      have HMORE := Lib.hid hmore
      have HLEN := Lib.hid (numsK_len HH.out.good k)
      have HKN := Lib.hid hkg
      have HF2 := Lib.hid hfi.few
      have HNA2 := Lib.hid hna2
      clear hna2 htb hfi hcur hgb hlk hp hpm hmore hbw
      have hb3 : Below wr.heap.size wr (wr.alloc (.cells #[.int .i64 p.2.1, .slice a2 p.2.2.length cap2] 32)) := below_made _ _
      have hbx := Box2.new wr (p.2.1, a2, p.2.2.length, cap2)
      obtain ⟨W3, hW3⟩ : ∃ W, wr.alloc (.cells #[.int .i64 p.2.1, .slice a2 p.2.2.length cap2] 32) = W := ⟨_, rfl⟩
      dsimp only at hbx
      rw [hW3] at hb3 hbx
      have HW3 := Lib.hid hW3
      obtain ⟨N, hN⟩ : ∃ N, wr.heap.size = N := ⟨_, rfl⟩
      have HNN := Lib.hid hN
      rw [hN] at hbx
      have HBX := Lib.hid hbx
      have HB3 := Lib.hid hb3
      obtain ⟨x0, x1, -, -⟩ := hbx.facts
      dsimp only at x0 x1
      clear hb3 hbx hW3 hN
      go_upto_region 9 with fail
      rw [HW3.out, HNN.out]
      obtain ⟨M, hM⟩ : ∃ M, p.2.2.length = M := ⟨_, rfl⟩
      have HMM := Lib.hid hM
      rw [hM] at x1
      rw [hM]
      have ho3 := own_below HRL.out.1 HB3.out
      have hb4 : Below W3.heap.size W3 (W3.alloc (.cells #[.int .i64 p.1, .int .i64 p.2.1, .int .i64 (M : Int)] 2)) := below_made _ _
      have hwle : w1.heap.size ≤ W3.heap.size := Nat.le_trans HRL.out.2.size HB3.out.size
      obtain ⟨v5, w5, hr5, ho5, hg5⟩ := app_run (own_below ho3 hb4) (sl_new W3 [p.1, p.2.1, (M : Int)] 2 3) (by have := HLEN.out; simp only [List.length_cons, List.length_nil]; omega) (Nat.le_trans hwle hb4.size) 30
      have hs5 : (some (⟨W3.heap.size, 0, none⟩ : Addr)) = some ⟨W3.heap.size, 0, none⟩ := rfl
      clear hs5
      have hbw3 := below_on' HRL.out.2 (below_on' HB3.out hb4)
      have hb5 := hbw3.grown hg5 hbw3.size (fun j hj => (ho3.lt j hj).1)
      have HB5 := Lib.hid hb5
      have hnN : ∀ j, u4.ownBlock = some j → j ≠ N := fun j hj e => by
        obtain ⟨h1, h2⟩ := ho3
        rcases h2 with ⟨h3, _⟩ | ⟨g5, cap5, cur5, h3, h4, h5, _⟩
        · rw [h3] at hj; simp [Value.ownBlock] at hj
        · rw [h3] at hj
          simp [Value.ownBlock] at hj
          subst hj
          subst e
          rw [HBX.out] at h5; cases h5
      have hbx5 : Box2 w5 N (p.2.1, a2, M, cap2) := by
        have e := hg5.block N (Nat.lt_of_lt_of_le (lt_of_get HBX.out) hb4.size) (fun e => hnN N e.symm rfl)
        unfold Box2
        rw [e, hb4.block N (lt_of_get HBX.out)]
        have := HBX.out
        unfold Box2 at this
        rw [HMM.out] at this
        exact this
      have hna5 : NA w5 a2 cap2 p.2.2 := HNA2.out.keep (.of_below hb5)
      obtain ⟨v6, w6, hr6, ho6, hg6⟩ := app_run ho5 hna5.sl (by have := HLEN.out; have := HF2.out; simp only [List.length_append, List.length_cons, List.length_nil]; omega) hb5.size 30
      have hb6 := hb5.grown hg6 hb5.size (fun j hj => (ho5.lt j hj).1)
      have HNX : Hid (BytesRel w1 w6 L v6 (k + 1)) := Lib.hid (by
        unfold BytesRel
        have hm := HMORE.out
        rw [HMM.out] at hm
        rw [hm]
        exact ⟨own_len ho6, hb6⟩)
      have hr5' : (Builtin.append_ #[30, 30] 30 #[u4, .slice (some ⟨W3.heap.size, 0, none⟩) 3 3]).run Try.prog (W3.alloc (.cells #[.int .i64 p.1, .int .i64 p.2.1, .int .i64 (M : Int)] 2)) = .ok v5 w5 := hr5
      have HR5 := Lib.hid hr5'
      rw [HMM.out] at hr6
      have HR6 := Lib.hid hr6
      obtain ⟨y0, y1, -, -⟩ := hbx5.facts
      dsimp only at y0 y1
      clear hr5 hr5' hr6 ho3 hb4 hwle ho5 hg5 hbw3 hb5 hnN hbx5 hna5 ho6 hg6 hb6
      go_upto_region 10 with (at_builtin; refine wpList_app rfl (.tmp 27) (.tmp 34) 30 rfl rfl rfl HR5.out ?_)
      go_wp2_with (at_builtin; refine wpList_app rfl (.tmp 36) (.tmp 38) 30 rfl rfl rfl HR6.out ?_)
      go_roundg g
      case measure => omega
      case rel => exact ⟨k + 1, by have := HKN.out; omega, by go_num, HNX.out⟩
end Go.Proofs.Ytghpbhcnblninaa.tbl

/- What Take answers. -/
import Derived.Test.YtghpbhcnblninaaTbS
import Derived.Test.YtghpbhcnblninaaTbK
import Derived.Test.YtghpbhcnblninaaTbC
namespace Go.Proofs.Ytghpbhcnblninaa.tbl
set_option linter.unusedSimpArgs false
set_option linter.unusedVariables false
open Go.RowKit
attribute [local go_sem ↓] Go.wp_at_zero Go.wp_at_succ
open Go.Proofs.Ytghpbhcnblninaa.grp (gof gof_in fits fits_wf IRow intV below_on' below_made ret_bool own_below)
open Go.Proofs.Ytghpbhcnblninaa.byt (txt bl)

def TakePost (l : List UInt8) (w : World) (e : Ending) (w' : World) : Prop :=
  if (takeT l).1 = 0 then ∃ t b, e = .returned (.tuple #[.pointer (some ⟨t, 0, none⟩), .int .i64 0]) ∧ MadeT w.heap.size w w' t b (takeT l).2
  else e = .returned (.tuple #[.pointer none, .int .i64 (takeT l).1]) ∧ Below w.heap.size w w'
theorem take_fails {l : List UInt8} {c : Int} {L : Rows} {w w' : World} (h : takeT l = (c, L)) (hc : c ≠ 0) (hb : Below w.heap.size w w') : TakePost l w (.returned (.tuple #[.pointer none, .int .i64 c])) w' := by
  unfold TakePost
  rw [h, if_neg hc]
  exact ⟨rfl, hb⟩
theorem take_fine {l : List UInt8} {L : Rows} {w w' : World} {t b : Nat} (h : takeT l = (0, L)) (hm : MadeT w.heap.size w w' t b L) : TakePost l w (.returned (.tuple #[.pointer (some ⟨t, 0, none⟩), .int .i64 0])) w' := by
  unfold TakePost
  rw [h, if_pos rfl]
  exact ⟨t, b, rfl, hm⟩
/-- The last key. -/
def lastK (L : Rows) : Int := match L.getLast? with | none => 0 | some p => p.1
theorem lastK_snoc (L : Rows) (k : Int) (c : Cl) : lastK (L ++ [(k, c)]) = k := by unfold lastK; simp
theorem go_fault {g : Nat} {L : Rows} {st : St} (h : (cellO (numO st).2).2.2 ≠ 0) : goO (g + 1) L st = ((cellO (numO st).2).2.2, [], (cellO (numO st).2).2) := by
  show (if _ then _ else _) = _
  rw [if_pos h]
theorem go_bad {g : Nat} {L : Rows} {st : St} (h : (cellO (numO st).2).2.2 = 0) (hb : badB L (numO st).1 = true) : goO (g + 1) L st = (21, [], (cellO (numO st).2).2) := by
  show (if _ then _ else _) = _
  rw [if_neg (by rw [h]; simp), if_pos hb]
theorem go_next {g : Nat} {L : Rows} {st : St} (h : (cellO (numO st).2).2.2 = 0) (hb : badB L (numO st).1 = false) : goO (g + 1) L st = goO g (L ++ [((numO st).1, (cellO (numO st).2).1)]) (cellO (numO st).2).2 := by
  show (if _ then _ else _) = _
  rw [if_neg (by rw [h]; simp), if_neg (by rw [hb]; simp)]
theorem lastK_of {L : Rows} {p : Int × Cl} (h : L.getLast? = some p) : lastK L = p.1 := by unfold lastK; rw [h]
theorem last_some {L : Rows} (h : 0 < L.length) : ∃ p, L.getLast? = some p := by
  cases hl : L.getLast? with
  | none => rw [List.getLast?_eq_none_iff.1 hl] at h; simp at h
  | some p => exact ⟨p, rfl⟩
def TakeRel (w wr : World) (B t b R M k : Nat) (x : Int) (s1 : St) (v6 : Value) : Prop :=
  ∃ L st, v6 = .int .i64 (lastK L) ∧ IsTab wr t b L ∧ RdAt wr R st ∧ goO (M - k) L st = goO M [] s1 ∧ L.length = k ∧ st.1.length ≤ 1000000 ∧ Below B w wr
theorem cell_rest (s : St) : (cellO s).2.1.length ≤ s.1.length := by
  unfold cellO
  have h1 := num_rest s
  have h2 : (withinO 16 (numO s).2).2.1.length ≤ (numO s).2.1.length := by
    unfold withinO
    have := num_rest (numO s).2
    split <;> (first | (dsimp only; omega) | omega)
  have h3 := nums_rest (withinO 16 (numO s).2).1.toNat (withinO 16 (numO s).2).2
  dsimp only
  omega
theorem only_below {w0 w w' : World} {R : Nat} (h : Below w0.heap.size w0 w) (ho : Only (· = R) w w') (hR : w0.heap.size ≤ R) : Below w0.heap.size w0 w' :=
  h.trans (ho.below h.size (fun k hk => by rw [hk]; exact hR))
theorem IsTab.onlyR {w w' : World} {t b R : Nat} {L : Rows} {s : St} (h : IsTab w t b L) (hr : RdAt w R s) (ho : Only (· = R) w w') : IsTab w' t b L := by
  have h1 := h.obj
  unfold TabO at h1
  obtain ⟨es, ck, h2⟩ := h.map.isMap
  exact h.keep (ho.block t h.lt.1 (fun e => by rw [e, hr] at h1; cases h1)) (ho.block b h.lt.2.1 (fun e => by rw [e, hr] at h2; cases h2)) (rows_R hr ho)
theorem RdAt.tab {w w' : World} {t b R : Nat} {L : Rows} {s : St} (hr : RdAt w R s) (h : IsTab w t b L) (ho : Only (Two t b) w w') : RdAt w' R s := by
  have h1 := h.obj
  unfold TabO at h1
  obtain ⟨es, ck, h2⟩ := h.map.isMap
  refine (ho.block R (lt_of_get hr) (fun e => ?_)).trans hr
  rcases e with e | e
  · rw [← e, hr] at h1; cases h1
  · rw [← e, hr] at h2; cases h2
theorem tab_below {w0 w w' : World} {t b : Nat} (h : Below w0.heap.size w0 w) (ho : Only (Two t b) w w') (ht : w0.heap.size ≤ t) (hb : w0.heap.size ≤ b) : Below w0.heap.size w0 w' :=
  h.trans (ho.below h.size (fun k hk => by rcases hk with e | e <;> subst e <;> assumption))
theorem take_step {w W6 w7 : World} {t b R M k g : Nat} {L : Rows} {key : Int} {c : Cl} {s1 s5 : St} {z' : St} (h6 : IsTab W6 t b L) (hb : Below w.heap.size w W6) (ht : w.heap.size ≤ t) (hbb : w.heap.size ≤ b) (hk : fits key) (hc : Fine c)
    (hr : RdAt W6 R s5) (h2 : s5.2 = 0) (hn : s5.2 = 0 → badB L key = false → goO (g + 1) L z' = goO g (L ++ [(key, c)]) s5) (hg : goO (g + 1) L z' = goO M [] s1) (hs : s5.1.length ≤ 1000000) (hl : L.length = k) (hkg : k + (g + 1) = M)
    (hp : (putO L key c).1 = 0) (hbad : badB L key = false) (h7 : IsTab w7 t b (putO L key c).2) (ho : Only (Two t b) W6 w7) : TakeRel w w7 w.heap.size t b R M (k + 1) 0 s1 (.int .i64 key) := by
  have e := (h6.good.last hk hc hbad).2
  rw [e] at h7
  refine ⟨L ++ [(key, c)], s5, by rw [lastK_snoc], h7, hr.tab h6 ho, ?_, by simp [hl], hs, tab_below hb ho ht hbb⟩
  rw [← hg, hn h2 hbad]
  congr 1
  omega
set_option maxHeartbeats 3200000 in
set_option maxRecDepth 1000000 in
theorem take_any (s : ByteArray) (w : World) (hs : s.size ≤ 1000000) : Calls Try.prog 11 #[.string s] w (TakePost (bl s) w) := by
  obtain ⟨l, hl⟩ : ∃ l, bl s = l := ⟨_, rfl⟩
  have hsl : s = txt l := by rw [← hl]; rfl
  rw [hl]
  subst hsl
  have hll : l.length ≤ 1000000 := by rw [byt.txt_size] at hs; exact hs
  clear hl hs
  obtain ⟨S, hS⟩ : ∃ S, txt l = S := ⟨_, rfl⟩
  rw [hS]
  have HS := Lib.hid hS
  clear hS
  have HL := Lib.hid hll
  go_enter Try.func11, Try.ntmps11
  go_wp2_with fail
  refine (new_any w).mono ?_
  rintro e w1 ⟨t, b, rfl, ht, hwt, hwb, hb1⟩
  have hb2 : Below w1.heap.size w1 (w1.alloc (.cells #[.string S, .int .i64 0] 71)) := below_made _ _
  have hr2 : RdAt (w1.alloc (.cells #[.string S, .int .i64 0] 71)) w1.heap.size (l, 0) := by
    unfold RdAt
    rw [HS.out]
    exact Go.heap_alloc_new w1 _
  have HT2 := Lib.hid (ht.below hb2)
  have HB2 := Lib.hid (below_on' hb1 hb2)
  have HWI := Lib.hid (within_any 320 hr2 HL.out)
  obtain ⟨R, hR⟩ : ∃ R, w1.heap.size = R := ⟨_, rfl⟩
  have HWR : Hid (w.heap.size ≤ R) := Lib.hid (by rw [← hR]; exact hb1.size)
  have HRR := Lib.hid hR
  rw [hR] at HWI hr2
  have HRD2 := Lib.hid hr2
  obtain ⟨W2, hW2⟩ : ∃ W, w1.alloc (.cells #[.string S, .int .i64 0] 71) = W := ⟨_, rfl⟩
  have HW2 := Lib.hid hW2
  rw [hW2] at HT2 HB2 HWI HRD2
  obtain ⟨m, hm⟩ : ∃ m, (withinO 320 (l, 0)).1 = m := ⟨_, rfl⟩
  obtain ⟨s1, hs1⟩ : ∃ s1, (withinO 320 (l, 0)).2 = s1 := ⟨_, rfl⟩
  have hin := within_in (most := 320) (by omega) (l, 0)
  rw [hm] at hin
  obtain ⟨M, hM⟩ : ∃ M : Nat, m = (M : Int) := ⟨m.toNat, by omega⟩
  subst hM
  have hM320 : M ≤ 320 := by omega
  have HTK : Hid (takeT l = endO (goO M [] s1)) := Lib.hid (by unfold takeT; rw [hm, hs1, Int.toNat_natCast])
  have hl1 : s1.1.length ≤ 1000000 := by
    rw [← hs1]; unfold withinO
    have := num_rest (l, 0)
    simp only at this
    split <;> (first | (dsimp only; omega) | omega)
  rw [hm, hs1] at HWI
  have HL1 := Lib.hid hl1
  clear ht hb1 hb2 hr2 hR hW2 hm hs1 hin hl1 hll
  go_wp2_with fail
  rw [HW2.out, HRR.out]
  refine HWI.out.mono ?_
  rintro e w3 ⟨rfl, hr3, ho3⟩
  have HREL0 : Hid (TakeRel w w3 w.heap.size t b R M 0 0 s1 (.int .i64 0)) := Lib.hid ⟨[], s1, rfl, HT2.out.onlyR HRD2.out ho3, hr3, by rw [Nat.sub_zero], rfl, HL1.out, only_below HB2.out ho3 HWR.out⟩
  clear hr3 ho3
  go_wp2_with fail
  go_loopg [6, 16] M (fun g v6 v16 wr => ∃ k : Nat, k + g = M ∧ v16 = .int .i64 k ∧ TakeRel w wr w.heap.size t b R M k 0 s1 v6)
  case atStart => exact ⟨0, by omega, rfl, HREL0.out⟩
  case round =>
    obtain ⟨k, hkg, rfl, L, st, rfl, htb, hrd, hgo, hlk, hst, hbw⟩ := hrel
    have HTB := Lib.hid htb
    have HRD := Lib.hid hrd
    have HGO := Lib.hid hgo
    have HLK := Lib.hid hlk
    have HST := Lib.hid hst
    have HBW := Lib.hid hbw
    have HKG := Lib.hid hkg
    clear htb hrd hgo hlk hst hbw
    cases gk with
    | zero =>
      have hkz : ¬ ((k : Int) < (M : Int)) := by omega
      have hG0 : takeT l = endO (0, L, st) := by
        rw [HTK.out, ← HGO.out, show M - k = 0 by omega]; rfl
      obtain ⟨c0, c1, f0, f1⟩ := HRD.out.facts
      by_cases h2 : st.2 = 0
      · rw [h2] at c1
        by_cases h1 : st.1 = []
        · have hF : takeT l = (0, L) := by rw [hG0]; unfold endO; simp [h1, h2]
          have HF : Hid (TakePost l w (.returned (.tuple #[.pointer (some ⟨t, 0, none⟩), .int .i64 0])) wr) := Lib.hid (take_fine hF ⟨HTB.out, hwt, hwb, HBW.out⟩)
          rw [h1] at c0
          change wr.cell? ⟨R, 0, none⟩ = some (.string ⟨#[]⟩) at c0
          clear hG0 hF h1 h2 hkg
          go_wp2_with fail
          try rw [Exit.noGoto_ret]
          go_ret2
          exact HF.out
        · have hF : takeT l = (21, []) := by rw [hG0]; unfold endO; simp [h1, h2]
          have HF : Hid (TakePost l w (.returned (.tuple #[.pointer none, .int .i64 21])) wr) := Lib.hid (take_fails hF (by simp) HBW.out)
          obtain ⟨T, hT⟩ : ∃ T, txt st.1 = T := ⟨_, rfl⟩
          have hne : T ≠ ⟨#[]⟩ := fun e => h1 (by rw [e] at hT; exact (congrArg bl hT : bl (txt st.1) = bl ⟨#[]⟩))
          have hne2 := byt.str_ne hne
          have hne3 : T.toList.isEmpty = false := by
            cases hx : T.toList with
            | nil => rw [hx] at hne2; simp at hne2
            | cons => rfl
          rw [hT] at c0
          clear hG0 hF h1 h2 hkg hT
          go_wp2_with fail
          try rw [Exit.noGoto_ret]
          go_ret2
          exact HF.out
      · have hF : takeT l = (st.2, []) := by rw [hG0]; unfold endO; simp [h2]
        have HF : Hid (TakePost l w (.returned (.tuple #[.pointer none, .int .i64 st.2])) wr.drew) := Lib.hid (take_fails hF h2 HBW.out.drew)
        obtain ⟨c, hc⟩ : ∃ c, st.2 = c := ⟨_, rfl⟩
        rw [hc] at c1 HF h2
        have hne : (c != 0) = true := by simp [h2]
        clear hG0 hF h2 hkg hc
        go_wp2_with fail
        go_region
        go_wp2_with fail
        try rw [Exit.noGoto_ret]
        go_ret2
        exact HF.out
    | succ g =>
      have hkz : (k : Int) < (M : Int) := by omega
      have HNU := Lib.hid (number_any HRD.out HST.out)
      unfold NumPost at HNU
      clear hkg
      go_wp2_with fail
      refine HNU.out.mono ?_
      rintro e w4 ⟨rfl, hr4, ho4⟩
      have HTB4 := Lib.hid (HTB.out.onlyR HRD.out ho4)
      have HBW4 := Lib.hid (only_below HBW.out ho4 HWR.out)
      have HRD4 := Lib.hid hr4
      have HCE := Lib.hid (cell_any hr4 (Nat.le_trans (num_rest st) HST.out))
      unfold CellPost at HCE
      clear hr4 ho4
      go_wp2_with fail
      refine HCE.out.mono ?_
      rintro e w5 ⟨a, cap, rfl, hna5, hr5, ho5⟩
      have HTB5 := Lib.hid (HTB4.out.onlyR HRD4.out ho5)
      have HBW5 := Lib.hid (only_below HBW4.out ho5 HWR.out)
      have HRD5 := Lib.hid hr5
      have HNA5 := Lib.hid hna5
      have hb6 : Below w5.heap.size w5 (w5.alloc (.cells #[.int .i64 (cellO (numO st).2).1.1, .slice a (cellO (numO st).2).1.2.length cap] 32)) := below_made _ _
      have hbx := Box2.new w5 ((cellO (numO st).2).1.1, a, (cellO (numO st).2).1.2.length, cap)
      have HF16 := Lib.hid (cell_fine (numO st).2)
      have HKF := Lib.hid (num_fits st)
      have HGR := Lib.hid (show goO (g + 1) L st = goO M [] s1 by rw [← HGO.out]; congr 1; have := HKG.out; omega)
      have HFA := Lib.hid (go_fault (g := g) (L := L) (st := st))
      have HBA := Lib.hid (go_bad (g := g) (L := L) (st := st))
      have HNE := Lib.hid (go_next (g := g) (L := L) (st := st))
      have HRE : Hid ((cellO (numO st).2).2.1.length ≤ 1000000) := Lib.hid (Nat.le_trans (cell_rest _) (Nat.le_trans (num_rest st) HST.out))
      obtain ⟨key, hkey⟩ : ∃ x, (numO st).1 = x := ⟨_, rfl⟩
      obtain ⟨cx, hcx⟩ : ∃ x, (cellO (numO st).2).1.1 = x := ⟨_, rfl⟩
      obtain ⟨ns, hns⟩ : ∃ x, (cellO (numO st).2).1.2 = x := ⟨_, rfl⟩
      obtain ⟨s5, hs5⟩ : ∃ x, (cellO (numO st).2).2 = x := ⟨_, rfl⟩
      have hce : (cellO (numO st).2).1 = (cx, ns) := by rw [← hcx, ← hns]
      rw [hs5] at HFA HBA HNE HRE HRD5
      rw [hkey] at HBA HNE HKF
      rw [hce] at HNE HF16
      rw [hcx, hns] at hb6 hbx
      rw [hns] at HNA5
      obtain ⟨W6, hW6⟩ : ∃ W, w5.alloc (.cells #[.int .i64 cx, .slice a ns.length cap] 32) = W := ⟨_, rfl⟩
      dsimp only at hbx
      rw [hW6] at hb6 hbx
      have HW6 := Lib.hid hW6
      obtain ⟨N, hN⟩ : ∃ N, w5.heap.size = N := ⟨_, rfl⟩
      have HNN := Lib.hid hN
      rw [hN] at hbx
      have HTB6 := Lib.hid (HTB5.out.below hb6)
      have HBW6 := Lib.hid (below_on' HBW5.out hb6)
      have HRD6 := Lib.hid (HRD5.out.below hb6)
      have HNA6 := Lib.hid (HNA5.out.keep (.of_below hb6))
      obtain ⟨x0, x1, -, -⟩ := hbx.facts
      dsimp only at x0 x1
      have HPU := Lib.hid (put_any (k := key) HTB6.out HKF.out HF16.out.acc HF16.out.all HNA6.out.sl (HNA6.out.ne_tab HTB6.out) (Nat.le_trans HF16.out.few (by omega)))
      unfold PutPost at HPU
      unfold mkC
      rw [hkey, hcx, hns]
      obtain ⟨nl, hnl⟩ : ∃ n, ns.length = n := ⟨_, rfl⟩
      rw [hnl] at HW6 HPU x1
      rw [hnl]
      clear hr5 ho5 hna5 hb6 hbx hW6 hN hkey hcx hns hs5 hce hnl
      obtain ⟨c0, c1, -, -⟩ := HRD6.out.facts
      by_cases h2 : s5.2 = 0
      · rw [h2] at c1
        have hLT := HTB6.out.lt
        have HHIT := Lib.hid (fun w7 => take_step (w7 := w7) HTB6.out HBW6.out hwt hwb HKF.out HF16.out HRD6.out h2 HNE.out HGR.out HRE.out HLK.out HKG.out)
        have HMISS : Hid (∀ w', Below w.heap.size w w' → badB L key = true → TakePost l w (.returned (.tuple #[.pointer none, .int .i64 21])) w') := Lib.hid (fun w' hb hbad => by
          refine take_fails (L := []) ?_ (by simp) hb
          rw [HTK.out, ← HGR.out, HBA.out h2 hbad]; unfold endO; simp)
        have HGB := Lib.hid (HTB6.out.good.bad (k := key) (c := (cx, ns)) HF16.out)
        obtain ⟨pc, hpc⟩ : ∃ x, (putO L key (cx, ns)).1 = x := ⟨_, rfl⟩
        rw [hpc] at HPU HGB HHIT
        have c1' := c1
        have x0' := x0
        have x1' := x1
        rw [← HW6.out] at c1'
        by_cases hk0 : 0 < (k : Int)
        · obtain ⟨p, hp⟩ := last_some (L := L) (by have := HLK.out; omega)
          have HLA := Lib.hid (lastK_of hp)
          have HAH := Lib.hid (ahead_all (lastK L) key W6)
          have HB0 : Hid (lessB (lastK L) key = false → badB L key = true) := Lib.hid (fun e => by
            unfold badB; rw [hp]; rw [HLA.out] at e; simp [e])
          have HB1 : Hid (lessB (lastK L) key = true → badB L key = decide (pc ≠ 0)) := Lib.hid (fun e => HGB.out (fun q hq => by
            rw [hp] at hq; rw [HLA.out, Option.some.inj hq] at e; exact e))
          clear hp hpc hLT
          obtain ⟨lb, hlb⟩ : ∃ x, lessB (lastK L) key = x := ⟨_, rfl⟩
          rw [hlb] at HAH HB0 HB1
          clear hlb
          go_wp2_with fail
          rw [HW6.out, HNN.out]
          refine HAH.out.mono ?_
          rintro e w7 ⟨rfl, rfl⟩
          cases lb with
          | false =>
            go_wp2_with fail
            try rw [Exit.noGoto_ret]
            go_ret2
            exact HMISS.out _ HBW6.out (HB0.out (by first | rfl | trivial))
          | true =>
            go_wp2_with fail
            refine HPU.out.mono ?_
            rintro e w8 ⟨rfl, ht8, ho8⟩
            have HT8 := Lib.hid ht8
            have HO8 := Lib.hid ho8
            clear ht8 ho8
            by_cases hz : pc = 0
            · subst hz
              have HST := Lib.hid (HHIT.out w8 rfl (by simpa using HB1.out (by first | rfl | trivial)) HT8.out HO8.out)
              go_wp2_with fail
              go_roundg g
              case measure => omega
              case rel => exact ⟨k + 1, by have := HKG.out; omega, by go_num, HST.out⟩
            · have hne : (pc != 0) = true := by simp [hz]
              have HM := Lib.hid (HMISS.out w8 (tab_below HBW6.out HO8.out hwt hwb) (by simpa [hz] using HB1.out (by first | rfl | trivial)))
              go_wp2_with fail
              try rw [Exit.noGoto_ret]
              go_ret2
              exact HM.out
        · have hk00 : k = 0 := by omega
          have HB1 : Hid (badB L key = decide (pc ≠ 0)) := Lib.hid (HGB.out (fun q hq => by
            have h0 : L = [] := List.length_eq_zero_iff.1 (by rw [HLK.out, hk00])
            rw [h0] at hq; cases hq))
          clear hpc hLT hk00
          rw [← HW6.out] at x0' x1'
          rw [HNN.out.symm] at x0' x1'
          go_wp2_with fail
          rw [HW6.out]
          refine HPU.out.mono ?_
          rintro e w8 ⟨rfl, ht8, ho8⟩
          have HT8 := Lib.hid ht8
          have HO8 := Lib.hid ho8
          clear ht8 ho8
          by_cases hz : pc = 0
          · subst hz
            have HST := Lib.hid (HHIT.out w8 rfl (by simpa using HB1.out) HT8.out HO8.out)
            go_wp2_with fail
            go_roundg g
            case measure => omega
            case rel => exact ⟨k + 1, by have := HKG.out; omega, by go_num, HST.out⟩
          · have hne : (pc != 0) = true := by simp [hz]
            have HM := Lib.hid (HMISS.out w8 (tab_below HBW6.out HO8.out hwt hwb) (by simpa [hz] using HB1.out))
            go_wp2_with fail
            try rw [Exit.noGoto_ret]
            go_ret2
            exact HM.out
      · have hF : takeT l = (s5.2, []) := by rw [HTK.out, ← HGR.out, HFA.out h2]; unfold endO; simp [h2]
        have HF : Hid (TakePost l w (.returned (.tuple #[.pointer none, .int .i64 s5.2])) W6.drew) := Lib.hid (take_fails hF h2 HBW6.out.drew)
        obtain ⟨c, hc⟩ : ∃ c, s5.2 = c := ⟨_, rfl⟩
        rw [hc] at c1 HF h2
        have hne : (c != 0) = true := by simp [h2]
        clear hF h2 hc
        rw [← HW6.out] at c1
        go_wp2_with fail
        rw [HW6.out]
        rw [HW6.out] at c1
        go_region
        go_wp2_with fail
        try rw [Exit.noGoto_ret]
        go_ret2
        exact HF.out
end Go.Proofs.Ytghpbhcnblninaa.tbl

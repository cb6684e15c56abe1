/- slices.Equal and slices.Contains of records. A row of one record; what x comes to; a node. The nodes that the statements make. .. -/
import Derived.Test.YtepdecnegihhhaaGreatDoorMOp
import Derived.Laws.StructEq
import Derived.Test.YtepdecnegihhhaaGreatDoorMEg
set_option linter.unusedSimpArgs false
set_option linter.unusedVariables false
namespace Go.Proofs.YtepdecnegihhhaaGreatDoor.opr
section
open Go.RowKit
attribute [local go_sem ↓] Go.wp_at_zero Go.wp_at_succ
open tbl (Only lt_of_get)
open grp (below_on' below_made)
set_option maxHeartbeats 6400000 in
set_option maxRecDepth 1000000 in
theorem equal_any {w : World} {u v : Value} {l q : List Rc} (h : Sr w u l) (h' : Sr w v q) (hl : l.length ≤ 1000000) (hq : q.length ≤ 1000000) :
  Calls Tryz.prog 8 #[u, v] w fun e w' => e = .returned (.bool (decide (l = q))) ∧ Below w.heap.size w w' := by
 obtain ⟨a, c, rfl⟩ := h.len
 obtain ⟨a', c', rfl⟩ := h'.len
 by_cases hlen : l.length = q.length
 case neg =>
  have hd : decide (l = q) = false := decide_eq_false (fun e => hlen (by rw [e]))
  rw [hd]
  have hne : ¬ ((l.length : Int) = (q.length : Int)) := by omega
  obtain ⟨n, hn⟩ : ∃ n, l.length = n := ⟨_, rfl⟩
  obtain ⟨m, hm⟩ : ∃ n, q.length = n := ⟨_, rfl⟩
  rw [hn, hm] at hne ⊢
  have HB : Hid (Below w.heap.size w w) := Lib.hid (Below.refl _ _)
  clear h h' hd hlen hl hq hn hm
  go_enter Tryz.func8, Tryz.ntmps8
  go_wp2
  go_ret
  exact ⟨rfl, HB.out⟩
 case pos =>
  obtain ⟨n, hn⟩ : ∃ n, l.length = n := ⟨_, rfl⟩
  have hm : q.length = n := by omega
  rw [hn, hm]
  have HL := Lib.hid h
  have HQ := Lib.hid h'
  have HN := Lib.hid hn
  have HM := Lib.hid hm
  have hn1 : (n : Int) ≤ 1000000 := by omega
  have HB0 : Hid (Below w.heap.size w w) := Lib.hid (Below.refl _ _)
  clear h h' hn hm hl hq hlen
  go_enter Tryz.func8, Tryz.ntmps8
  go_wp2
  go_loopg [13] n (fun g v13 wr => ∃ k, v13 = .int .i64 (k : Nat) ∧ k + g = n ∧ Hid (l.take k = q.take k) ∧ Hid (Below w.heap.size w wr))
  case atStart => exact ⟨0, rfl, by omega, Lib.hid rfl, HB0⟩
  case round =>
   clear HB0
   obtain ⟨k, rfl, hk, HT, HB⟩ := hrel
   by_cases hlt : k < n
   · have hlt' : (k : Int) < (n : Int) := by omega
     have hk0 : (0 : Int) ≤ (k : Int) := by omega
     have hl1 : k < l.length := by rw [HN.out]; exact hlt
     have hq1 : k < q.length := by rw [HM.out]; exact hlt
     obtain ⟨x, gx⟩ := rec_at hl1
     obtain ⟨y, gy⟩ := rec_at hq1
     obtain ⟨g, o, c1, e1, e2, p1, p2, p3⟩ := (HL.out.below HB.out).at gx
     obtain ⟨g', o', c2, e3, e4, q1, q2, q3⟩ := (HQ.out.below HB.out).at gy
     rw [HN.out] at e1
     rw [HM.out] at e3
     injection e1 with e1a _ e1b
     injection e3 with e3a _ e3b
     subst e1a e1b e3a e3b
     have HKK := Lib.hid (And.intro hk hlt)
     have HXY := Lib.hid (And.intro gx gy)
     have HBD := Lib.hid HB.out.drew
     by_cases hxy : x = y
     · have HNX : Hid (l.take (k + 1) = q.take (k + 1)) := Lib.hid (by rw [List.take_add_one, List.take_add_one, gx, gy, HT.out, hxy])
       subst hxy
       obtain ⟨x1, x2, x3⟩ := x
       dsimp only at p1 p2 p3 q1 q2 q3
       clear gx gy e2 e4 hl1 hq1 hk hlt
       go_wp2_with fail
       go_region
       all_goals go_wp2
       go_roundg (n - (k + 1))
       case measure => have := HKK.out; omega
       case rel => exact ⟨k + 1, rfl, by have := HKK.out; omega, HNX, HBD⟩
     · have HD : Hid (decide (l = q) = false) := Lib.hid (decide_eq_false (fun e => hxy (by rw [e, gy] at gx; injection gx with gx; exact gx.symm)))
       have hne : ¬ (x.1 = y.1 ∧ x.2.1 = y.2.1 ∧ x.2.2 = y.2.2) := fun ⟨h1, h2, h3⟩ => hxy (Prod.ext h1 (Prod.ext h2 h3))
       obtain ⟨x1, x2, x3⟩ := x
       obtain ⟨y1, y2, y3⟩ := y
       dsimp only at p1 p2 p3 q1 q2 q3 hne
       clear gx gy e2 e4 hl1 hq1 hk hlt hxy
       by_cases hx1 : x1 = y1
       · subst hx1
         by_cases hx2 : x2 = y2
         · subst hx2
           have hb3 : (x3 == y3) = false := beq_eq_false_iff_ne.2 (fun e => hne ⟨rfl, rfl, e⟩)
           clear hne
           go_wp2_with fail
           go_region
           all_goals go_wp2
           all_goals (go_ret; exact ⟨grp.ret_bool HD.out.symm, HBD.out⟩)
         · have hb2 : (x2 == y2) = false := beq_eq_false_iff_ne.2 hx2
           clear hne hx2
           go_wp2_with fail
           go_region
           all_goals go_wp2
           all_goals (go_ret; exact ⟨grp.ret_bool HD.out.symm, HBD.out⟩)
       · have hb1 : (x1 == y1) = false := beq_eq_false_iff_ne.2 hx1
         clear hne hx1
         go_wp2_with fail
         go_region
         all_goals go_wp2
         all_goals (go_ret; exact ⟨grp.ret_bool HD.out.symm, HBD.out⟩)
   · have hlt' : ¬ ((k : Int) < (n : Int)) := by omega
     have HD : Hid (decide (l = q) = true) := Lib.hid (decide_eq_true (by
      have h1 := HT.out
      rwa [show k = n by omega, List.take_of_length_le (by rw [HN.out]; exact Nat.le_refl _), List.take_of_length_le (by rw [HM.out]; exact Nat.le_refl _)] at h1))
     clear hlt hk
     go_wp2
     go_ret
     exact ⟨grp.ret_bool HD.out.symm, HB.out⟩
end
section
open Go.RowKit
attribute [local go_sem ↓] Go.wp_at_zero Go.wp_at_succ
open tbl (Only lt_of_get)
open grp (below_on' below_made)
open exp (Ex Lies En intO exV enV)
theorem own_one (w : World) (r : Rc) : Own (w.alloc (.cells #[.int .i64 r.1, .int .i64 r.2.1, .int .i64 r.2.2] 34)) w.heap.size (.slice (some ⟨w.heap.size, 0, none⟩) 1 1) [r] :=
 ⟨rfl, .inr ⟨w.heap.size, 1, _, rfl, Nat.le_refl _, Go.heap_alloc_new w _, Nat.le_refl _, by decide, rfl, rfl⟩⟩
theorem one_any (p k v : Int) (w : World) : Calls Tryz.prog 79 #[.int .i64 p, .int .i64 k, .int .i64 v] w fun e w' => ∃ v', e = .returned v' ∧ Own w' w.heap.size v' [(p, k, v)] ∧ Below w.heap.size w w' := by
 have HF : Hid (∃ v', Ending.returned (.slice (some ⟨w.heap.size, 0, none⟩) 1 1) = .returned v' ∧ Own (w.alloc (.cells #[.int .i64 p, .int .i64 k, .int .i64 v] 34)) w.heap.size v' [(p, k, v)] ∧ Below w.heap.size w (w.alloc (.cells #[.int .i64 p, .int .i64 k, .int .i64 v] 34))) :=
  Lib.hid ⟨_, rfl, own_one w (p, k, v), below_made _ _⟩
 go_enter Tryz.func79, Tryz.ntmps79
 go_wp2
 go_ret
 exact HF.out
structure Nv where
 s : ByteArray
 kd : Nat
 ia : Option Addr
 il : Nat
 ic : Nat
 op : Nat
 xn : Int
 xa : Option Addr
 xl : Nat
 xc : Nat
 nn : Int
def Nv.cells (n : Nv) : Array Value := #[.string n.s, .int .u8 (n.kd : Int), .slice n.ia n.il n.ic, .int .u8 (n.op : Int), .int .i64 n.xn, .slice n.xa n.xl n.xc, .int .i64 n.nn]
def nodeV (n : Nv) : Value := .agg n.cells
def NBox (w : World) (b : Nat) (n : Nv) : Prop := w.heap[b]? = some (.cells n.cells 48 (0, 0))
theorem NBox.below {w w' : World} {b : Nat} {n : Nv} (h : NBox w b n) (hb : Below w.heap.size w w') : NBox w' b n := (hb.block b (lt_of_get h)).trans h
theorem NBox.facts {w : World} {b : Nat} {n : Nv} (h : NBox w b n) : w.cell? ⟨b, 0, none⟩ = some (.string n.s) ∧ w.cell? ⟨b, 1, none⟩ = some (.int .u8 (n.kd : Int)) ∧ w.cell? ⟨b, 2, none⟩ = some (.slice n.ia n.il n.ic) ∧ w.cell? ⟨b, 3, none⟩ = some (.int .u8 (n.op : Int)) ∧ w.cell? ⟨b, 4, none⟩ = some (.int .i64 n.xn) ∧ w.cell? ⟨b, 5, none⟩ = some (.slice n.xa n.xl n.xc) ∧ w.cell? ⟨b, 6, none⟩ = some (.int .i64 n.nn) := by
 refine ⟨?_, ?_, ?_, ?_, ?_, ?_, ?_⟩ <;> (rw [cell_of_row _ _ _ _ _ _ h]; rfl)
theorem NBox.new (w : World) (n : Nv) : NBox (w.alloc (.cells n.cells 48)) w.heap.size n := Go.heap_alloc_new w _
theorem x_any {w : World} {b : Nat} {n : Nv} (h : NBox w b n) {args : List Ex} {B : Nat → Prop} (hl : Lies w B (.slice n.xa n.xl n.xc) args) (hs : (Ex.mk n.op n.xn args).size ≤ 1000000) (r : Rc) (acc : Int) :
  Calls Tryz.prog 76 #[rcA r, .int .i64 acc, .pointer (some ⟨b, 0, none⟩)] w fun e w' => e = .returned (.int .i64 (intO (Ex.mk n.op n.xn args) ⟨r.2.1, r.2.2, acc⟩)) ∧ Below w.heap.size w w' := by
 have hb0 := below_made w (.cells #[.int .i64 r.1, .int .i64 r.2.1, .int .i64 r.2.2] 34)
 have HI := Lib.hid (exp.int_any ⟨r.2.1, r.2.2, acc⟩ (x := .mk n.op n.xn args) (hl.under hb0) hs)
 obtain ⟨-, -, -, p3, p4, p5, -⟩ := (h.below hb0).facts
 have HB0 := Lib.hid hb0
 obtain ⟨r1, r2, r3⟩ := r
 unfold rcA
 dsimp only at HI HB0 p3 p4 p5 ⊢
 unfold exV enV at HI
 change Hid (Calls Tryz.prog 77 #[.agg #[.int .u8 (n.op : Int), .int .i64 n.xn, .slice n.xa n.xl n.xc], .agg #[.int .i64 r2, .int .i64 r3, .int .i64 acc]] _ _) at HI
 obtain ⟨z, hz⟩ : ∃ z, intO (Ex.mk n.op n.xn args) ⟨r2, r3, acc⟩ = z := ⟨_, rfl⟩
 rw [hz] at HI ⊢
 have q1 : (w.alloc (.cells #[.int .i64 r1, .int .i64 r2, .int .i64 r3] 34)).cell? ⟨w.heap.size, 1, none⟩ = some (.int .i64 r2) := by rw [cell_of_row _ _ _ _ _ _ (Go.heap_alloc_new w _)]; rfl
 have q2 : (w.alloc (.cells #[.int .i64 r1, .int .i64 r2, .int .i64 r3] 34)).cell? ⟨w.heap.size, 2, none⟩ = some (.int .i64 r3) := by rw [cell_of_row _ _ _ _ _ _ (Go.heap_alloc_new w _)]; rfl
 clear h hl hs hb0 hz
 go_enter Tryz.func76, Tryz.ntmps76
 go_wp2_with fail
 (with_reducible refine HI.out.mono ?_)
 rintro e w1 ⟨rfl, hb1⟩
 have HF : Hid (Below w.heap.size w w1) := Lib.hid (HB0.out.trans (hb1.mono HB0.out.size))
 clear hb1
 go_wp2
 go_ret
 exact ⟨rfl, HF.out⟩
end
section
open Go.RowKit
attribute [local go_sem ↓] Go.wp_at_zero Go.wp_at_succ
open tbl (Only lt_of_get)
open grp (below_on' below_made)
open exp (Ex Lies En intO exV enV)
theorem own_only {F : Nat → Prop} {w w' : World} {B : Nat} {v : Value} {l : List Rc} (h : Own w B v l) (ho : Only F w w') (hF : ∀ k, F k → k < B) : Own w' B v l := by
 rcases h.2 with ⟨e1, e2⟩ | ⟨g, cap, cur, e1, e2, e3, e4⟩
 · exact ⟨h.1, .inl ⟨e1, e2⟩⟩
 · exact ⟨h.1, .inr ⟨g, cap, cur, e1, e2, (ho.block g (lt_of_get e3) (fun hf => by have := hF g hf; omega)).trans e3, e4⟩⟩
end
section
open Go.RowKit
attribute [local go_sem ↓] Go.wp_at_zero Go.wp_at_succ
open tbl (Only lt_of_get)
open grp (below_on' below_made)
def outsTo (outs : Nat → List Rc) (k : Nat) : List Rc := (List.range k).flatMap outs
theorem outsTo_succ (outs : Nat → List Rc) (k : Nat) : outsTo outs (k + 1) = outsTo outs k ++ outs k := by
 unfold outsTo
 rw [List.range_succ, List.flatMap_append]
 simp
theorem rec_box (w : World) (r : Rc) : (w.alloc (.cells #[.int .i64 r.1, .int .i64 r.2.1, .int .i64 r.2.2] 34)).cell? ⟨w.heap.size, 0, none⟩ = some (.int .i64 r.1) ∧ (w.alloc (.cells #[.int .i64 r.1, .int .i64 r.2.1, .int .i64 r.2.2] 34)).cell? ⟨w.heap.size, 1, none⟩ = some (.int .i64 r.2.1) ∧ (w.alloc (.cells #[.int .i64 r.1, .int .i64 r.2.1, .int .i64 r.2.2] 34)).cell? ⟨w.heap.size, 2, none⟩ = some (.int .i64 r.2.2) :=
 ⟨by rw [cell_of_row _ _ _ _ _ _ (Go.heap_alloc_new w _)]; rfl, by rw [cell_of_row _ _ _ _ _ _ (Go.heap_alloc_new w _)]; rfl, by rw [cell_of_row _ _ _ _ _ _ (Go.heap_alloc_new w _)]; rfl⟩
def Stay (w w' : World) : Prop := ∀ (j : Nat) (ob : Obj), w.heap[j]? = some ob → (∀ (cur : Array Value) (fr : Nat × Nat), ob ≠ Obj.cells cur 34 fr) → w'.heap[j]? = some ob
theorem Stay.of_below {w w' : World} (h : Below w.heap.size w w') : Stay w w' := fun j ob hj _ => (h.block j (lt_of_get hj)).trans hj
theorem Stay.of_grown {w w' : World} {B : Nat} {v : Value} {l : List Rc} (h : Own w B v l) (hg : w.grownBy w' v.ownBlock) : Stay w w' := fun j ob hj hno => by
 rw [hg.block j (lt_of_get hj) (fun e => ?_)]
 · exact hj
 · rcases h.2 with ⟨e1, _⟩ | ⟨g, cap, cur, e1, e2, e3, _⟩
   · rw [e1] at e; cases e
   · rw [e1] at e
     have : j = g := by simpa [Value.ownBlock] using e
     subst this
     rw [hj] at e3
     exact hno _ _ (Option.some.inj e3)
structure Seen (F : Nat → Prop) (I : World → Prop) (w : World) (v : Value) (out : List Rc) (wr : World) : Prop where
 own : Own wr w.heap.size v out
 inv : I wr
 only : Only F w wr
theorem Seen.sr {F : Nat → Prop} {I : World → Prop} {w wr : World} {v u : Value} {out l : List Rc} (h : Seen F I w v out wr) (hs : Sr w u l) (hu : ∀ a n c, u = .slice (some a) n c → ¬ F a.block) : Sr wr u l := hs.only h.only hu
theorem Seen.step {F : Nat → Prop} {I I' : World → Prop} {w wr w1 : World} {out q : List Rc} {v v1 : Value} {o : Obj} (h : Seen F I w v out wr) (hF : ∀ k, F k → k < w.heap.size)
  (h1 : Own w1 (wr.alloc o).heap.size v1 q) (h2 : I' w1) (h3 : Only F (wr.alloc o) w1) (hq : out.length + q.length ≤ 1000000) (hI : ∀ w' w'', I' w' → Stay w' w'' → I' w'') :
  ∃ v' w', (∀ ty, (Builtin.append_ #[32, 32] ty #[v, v1]).run Tryz.prog w1 = .ok v' w') ∧ Seen F I' w v' (out ++ q) w' := by
 have ho1 : Only F wr w1 := (Only.alloc F wr o).then h3
 have hw1 : Own w1 w.heap.size v out := own_only h.own ho1 hF
 have hsz : w.heap.size ≤ w1.heap.size := Nat.le_trans h.only.size ho1.size
 obtain ⟨v', w', k1, k2, k3, k4⟩ := hw1.app h1.sr hq hsz 0
 refine ⟨v', w', fun ty => k1, ⟨k2, hI w1 w' h2 (.of_grown hw1 k3), ?_⟩⟩
 have : Only (fun k => F k ∨ w.heap.size ≤ k) w w' := ((h.only.then ho1).mono (fun k hk => .inl hk)).then (.of_grown k3 (fun k hk => .inr (k4 k hk)))
 exact ⟨this.os, this.tape, this.output, this.size, fun k hk hn => this.block k hk (fun hf => hf.elim hn (fun h => by omega))⟩
set_option maxHeartbeats 6400000 in
set_option maxRecDepth 1000000 in
theorem do_any {w : World} {u : Value} {l : List Rc} (nv : Nv) (tv : Option Addr) (hs : Sr w u l) (hl : l.length ≤ 1000) (F : Nat → Prop) (hF : ∀ k, F k → k < w.heap.size) (hu : ∀ a n c, u = .slice (some a) n c → ¬ F a.block)
  (f : FuncId) (ef : ∀ args w, (callFunc f args).run Tryz.prog w = .ok (.enter f args) w) (I : Array Value → Nat → World → Prop) (outs : Nat → List Rc) (hout : ∀ k, (outsTo outs k).length ≤ 1000000)
  (hI : ∀ bd k w' w'', I bd k w' → Stay w' w'' → I bd k w'')
  (hp : ∀ w', Below w.heap.size w w' → Calls Tryz.prog 48 #[nodeV nv, .pointer tv] w' fun e w'' => ∃ bd, e = .returned (.func (.func f) #[] bd) ∧ I bd 0 w'' ∧ Below w'.heap.size w' w'')
  (hstep : ∀ bd k r w', l[k]? = some r → I bd k w' → Calls Tryz.prog f (#[rcA r] ++ bd) w' fun e w'' => ∃ v', e = .returned v' ∧ Own w'' w'.heap.size v' (outs k) ∧ I bd (k + 1) w'' ∧ Only F w' w'') :
  Calls Tryz.prog 20 #[nodeV nv, .pointer tv, u] w fun e w' => ∃ v', e = .returned v' ∧ Own w' w.heap.size v' (outsTo outs l.length) ∧ (∃ bd, I bd l.length w') ∧ Only F w w' := by
 obtain ⟨a, c, rfl⟩ := hs.len
 obtain ⟨n, hn⟩ : ∃ n, l.length = n := ⟨_, rfl⟩
 have HN := Lib.hid hn
 have hn1 : (n : Int) ≤ 1000 := by omega
 have hb0 := below_made w (.cells nv.cells 48)
 have HB0 := Lib.hid hb0
 have HP := Lib.hid (hp _ hb0)
 have HS := Lib.hid hs
 have HF := Lib.hid hF
 have HU := Lib.hid hu
 have HOUT := Lib.hid hout
 have HI := Lib.hid hI
 have HST := Lib.hid hstep
 obtain ⟨c0, c1, c2, c3, c4, c5, c6⟩ := (NBox.new w nv).facts
 rw [hn] at HU ⊢
 unfold nodeV Nv.cells at HP ⊢
 unfold Nv.cells at HB0 c0 c1 c2 c3 c4 c5 c6
 clear hs hl hF hu hout hI hp hstep hb0 hn
 go_enter Tryz.func20, Tryz.ntmps20
 go_wp2_with fail
 (with_reducible refine HP.out.mono ?_)
 rintro e w1 ⟨bd, rfl, hi1, hb1⟩
 have H0 : Hid (Seen F (I bd 0) w (.slice none 0 0) (outsTo outs 0) w1) := Lib.hid ⟨Own.nil _ _, hi1, .of_below (below_on' HB0.out hb1)⟩
 clear hi1 hb1
 go_wp2
 go_loopg [8, 16] n (fun g v8 v16 wr => ∃ k, v16 = .int .i64 (k : Nat) ∧ k + g = n ∧ Hid (Seen F (I bd k) w v8 (outsTo outs k) wr))
 case atStart => exact ⟨0, rfl, by omega, H0⟩
 case round =>
  clear H0
  obtain ⟨k, rfl, hk, HSE⟩ := hrel
  by_cases hlt : k < n
  · have hlt' : (k : Int) < (n : Int) := by omega
    have hk0 : (0 : Int) ≤ (k : Int) := by omega
    obtain ⟨r, gr⟩ := rec_at (l := l) (k := k) (by rw [HN.out]; exact hlt)
    obtain ⟨g, o, c', e1, e2, p1, p2, p3⟩ := (HSE.out.sr HS.out (by rw [HN.out]; exact HU.out)).at gr
    rw [HN.out] at e1
    injection e1 with e1a _ e1b
    subst e1a e1b
    have HGR := Lib.hid gr
    have HKK := Lib.hid (And.intro hk hlt)
    obtain ⟨q1, q2, q3⟩ := rec_box wr r
    have HC := Lib.hid (HST.out bd k r (wr.alloc (.cells #[.int .i64 r.1, .int .i64 r.2.1, .int .i64 r.2.2] 34)) gr (HI.out _ _ _ _ HSE.out.inv (.of_below (below_made _ _))))
    obtain ⟨r1, r2, r3⟩ := r
    unfold rcA at HC
    dsimp only at p1 p2 p3 q1 q2 q3 HC
    clear gr hk hlt e2
    go_wp2_with fail
    (with_reducible refine HC.out.mono ?_)
    rintro e w2 ⟨v1, rfl, ho1, hi1, hon1⟩
    obtain ⟨v', w', hr1, hr2⟩ := HSE.out.step HF.out ho1 hi1 hon1 (by rw [← List.length_append, ← outsTo_succ]; exact HOUT.out _) (HI.out bd (k + 1))
    rw [← outsTo_succ] at hr2
    have HR1 := Lib.hid hr1
    have HR2 := Lib.hid hr2
    clear ho1 hi1 hon1 hr1 hr2
    go_wp2_with (at_builtin; refine wpList_appR rfl (.tmp 20) (.tmp 23) 32 rfl rfl rfl (HR1.out _) ?_)
    go_roundg (n - (k + 1))
    case measure => have := HKK.out; omega
    case rel => exact ⟨k + 1, rfl, by have := HKK.out; omega, HR2⟩
  · have hlt' : ¬ ((k : Int) < (n : Int)) := by omega
    obtain ⟨a8, c8, hv8⟩ := HSE.out.own.len
    subst hv8
    have HE := Lib.hid (show ∃ v', Ending.returned (.slice a8 (outsTo outs k).length c8) = .returned v' ∧ Own wr w.heap.size v' (outsTo outs n) ∧ (∃ bd', I bd' n wr) ∧ Only F w wr from
     ⟨_, rfl, by have := HSE.out.own; rwa [show k = n by omega] at this ⊢, ⟨bd, by have := HSE.out.inv; rwa [show k = n by omega] at this⟩, HSE.out.only⟩)
    clear hlt hk
    go_wp2
    go_ret
    exact HE.out
end
section
open Go.RowKit
attribute [local go_sem ↓] Go.wp_at_zero Go.wp_at_succ
open tbl (Only lt_of_get IsTab Two putO TabO Rows2 mkC GetPost PutPost)
open grp (below_on' below_made fits)
open exp (Ex Lies En intO exV enV)
theorem IsTab.stay {w w' : World} {t b : Nat} {L : tbl.Rows} (h : IsTab w t b L) (hs : Stay w w') : IsTab w' t b L := by
 obtain ⟨es, ck, hb⟩ := h.map.isMap
 have ht := h.obj
 unfold TabO at ht
 exact h.keep ((hs t _ ht (fun cur fr e => by cases e)).trans ht.symm) ((hs b _ hb (fun cur fr e => by cases e)).trans hb.symm) (fun g cur fr hg => hs g _ hg (fun cur fr e => by cases e))
theorem Own.base {w : World} {B C : Nat} {v : Value} {l : List Rc} (h : Own w B v l) (hC : C ≤ B) : Own w C v l := by
 rcases h.2 with ⟨e1, e2⟩ | ⟨g, cap, cur, e1, e2, e3, e4⟩
 · exact ⟨h.1, .inl ⟨e1, e2⟩⟩
 · exact ⟨h.1, .inr ⟨g, cap, cur, e1, Nat.le_trans hC e2, e3, e4⟩⟩
def One (w : World) (b : Nat) (ty : TypeId) (v : Value) : Prop := w.heap[b]? = some (.cells #[v] ty (0, 0))
theorem One.below {w w' : World} {b : Nat} {ty : TypeId} {v : Value} (h : One w b ty v) (hb : Below w.heap.size w w') : One w' b ty v := (hb.block b (lt_of_get h)).trans h
theorem One.cell {w : World} {b : Nat} {ty : TypeId} {v : Value} (h : One w b ty v) : w.cell? ⟨b, 0, none⟩ = some v := by rw [cell_of_row _ _ _ _ _ _ h]; rfl
theorem One.new (w : World) (ty : TypeId) (v : Value) : One (w.alloc (.cells #[v] ty)) w.heap.size ty v := Go.heap_alloc_new w _
theorem only_two {w w' : World} {t b : Nat} {L : tbl.Rows} (h : IsTab w t b L) (ho : Only (Two t b) w w') {j : Nat} {ob : Obj} (hj : w.heap[j]? = some ob) (h1 : ∀ (cur : Array Value) (fr : Nat × Nat), ob ≠ Obj.cells cur 84 fr) (h2 : ∀ es ck, ob ≠ Obj.map es ck) : w'.heap[j]? = some ob := by
 obtain ⟨es, ck, hb⟩ := h.map.isMap
 have ht := h.obj
 unfold TabO at ht
 refine (ho.block j (lt_of_get hj) ?_).trans hj
 rintro (e | e)
 · rw [e, ht] at hj; exact h1 _ _ (Option.some.inj hj).symm
 · rw [e, hb] at hj; exact h2 _ _ (Option.some.inj hj).symm
structure RedI (nv : Nv) (args : List Ex) (B : Nat → Prop) (t b : Nat) (bd : Array Value) (L : tbl.Rows) (w : World) : Prop where
 tab : IsTab w t b L
 ex : ∃ b1 b2 nb, bd = #[.pointer (some ⟨b1, 0, none⟩), .pointer (some ⟨b2, 0, none⟩)] ∧ One w b1 49 (.pointer (some ⟨t, 0, none⟩)) ∧
  One w b2 149 (.func (.func 76) #[] #[.pointer (some ⟨nb, 0, none⟩)]) ∧ NBox w nb nv ∧ Lies w B (.slice nv.xa nv.xl nv.xc) args
theorem RedI.stay {nv : Nv} {args : List Ex} {B : Nat → Prop} {t b : Nat} {bd : Array Value} {L : tbl.Rows} {w w' : World} (h : RedI nv args B t b bd L w) (hs : Stay w w') : RedI nv args B t b bd L w' := by
 obtain ⟨b1, b2, nb, e, h1, h2, h3, h4⟩ := h.ex
 refine ⟨IsTab.stay h.tab hs, b1, b2, nb, e, hs _ _ h1 (fun cur fr e => by cases e), hs _ _ h2 (fun cur fr e => by cases e), hs _ _ h3 (fun cur fr e => by cases e), h4.frame (fun k c _ hk => (hs k _ hk (fun cur fr e => by cases e)).trans hk.symm)⟩
theorem RedI.two {nv : Nv} {args : List Ex} {B : Nat → Prop} {t b : Nat} {bd : Array Value} {L L' : tbl.Rows} {w w' : World} (h : RedI nv args B t b bd L w) (ht : IsTab w' t b L') (ho : Only (Two t b) w w') : RedI nv args B t b bd L' w' := by
 obtain ⟨b1, b2, nb, e, h1, h2, h3, h4⟩ := h.ex
 have k := fun (j : Nat) (ob : Obj) (hj : w.heap[j]? = some ob) => only_two h.tab ho hj
 refine ⟨ht, b1, b2, nb, e, k _ _ h1 (fun cur fr e => by cases e) (fun es ck e => by cases e), k _ _ h2 (fun cur fr e => by cases e) (fun es ck e => by cases e), k _ _ h3 (fun cur fr e => by cases e) (fun es ck e => by cases e), h4.frame (fun q c _ hq => (k _ _ hq (fun cur fr e => by cases e) (fun es ck e => by cases e)).trans hq.symm)⟩
def acc0 (L : tbl.Rows) (k : Int) : Int := match tbl.look L k with
 | none => 0
 | some c => c.1
theorem get_acc {w : World} {t b : Nat} {L : tbl.Rows} (h : IsTab w t b L) {k : Int} (hk : fits k) : Calls Tryz.prog 30 #[.pointer (some ⟨t, 0, none⟩), .int .i64 k] w fun e w' =>
  ∃ a n cap f, e = .returned (.tuple #[.agg #[.int .i64 (acc0 L k), .slice a n cap], .bool f]) ∧ Below w.heap.size w w' := by
 refine (tbl.get_any h hk).mono ?_
 rintro e w' ⟨h1, h2⟩
 unfold acc0
 cases hl : tbl.look L k with
 | none =>
  rw [hl] at h1
  exact ⟨none, 0, 0, false, h1, h2⟩
 | some c =>
  rw [hl] at h1
  obtain ⟨a, cap, h3, h4⟩ := h1
  exact ⟨a, c.2.length, cap, true, h3, h2⟩
theorem put_acc {w : World} {t b : Nat} {L L' : tbl.Rows} (h : IsTab w t b L) {k x : Int} (hk : fits k) (hx : fits x) (hp : putO L k (x, []) = (0, L')) : Calls Tryz.prog 36 #[.pointer (some ⟨t, 0, none⟩), .int .i64 k, .agg #[.int .i64 x, .slice none 0 0]] w fun e w' =>
  e = .returned (.int .i64 0) ∧ IsTab w' t b L' ∧ Only (Two t b) w w' := by
 refine (tbl.put_any h hk hx (ns := []) (by simp) (tbl.Sl.nil w) (by simp) (by simp)).mono ?_
 rintro e w' ⟨h1, h2, h3⟩
 rw [hp] at h1 h2
 exact ⟨h1, h2, h3⟩
set_option maxHeartbeats 6400000 in
set_option maxRecDepth 1000000 in
theorem red_step {w : World} {nv : Nv} {args : List Ex} {B : Nat → Prop} {t b : Nat} {bd : Array Value} {L L' : tbl.Rows} (h : RedI nv args B t b bd L w) (hs : (Ex.mk nv.op nv.xn args).size ≤ 1000000) (r : Rc) (hk : fits r.2.1) {x : Int} (hx : intO (Ex.mk nv.op nv.xn args) ⟨r.2.1, r.2.2, acc0 L r.2.1⟩ = x) (hfx : fits x) (hp : putO L r.2.1 (x, []) = (0, L')) :
  Calls Tryz.prog 122 (#[rcA r] ++ bd) w fun e w' => ∃ v', e = .returned v' ∧ Own w' w.heap.size v' [(r.1, r.2.1, x)] ∧ RedI nv args B t b bd L' w' ∧ Only (Two t b) w w' := by
 obtain ⟨b1, b2, nb, rfl, h1, h2, h3, h4⟩ := id h.ex
 have hb0 := below_made w (.cells #[.int .i64 r.1, .int .i64 r.2.1, .int .i64 r.2.2] 34)
 obtain ⟨q0, q1, q2⟩ := rec_box w r
 have z1 := (h1.below hb0).cell
 have HG := Lib.hid (get_acc (h.tab.below hb0) hk)
 have HH := Lib.hid h
 have HB0 := Lib.hid hb0
 have HX := Lib.hid (fun W (hW : Below w.heap.size w W) => x_any (h3.below hW) (h4.under hW) hs r (acc0 L r.2.1))
 have H2 := Lib.hid (fun W (hW : Below w.heap.size w W) => (h2.below hW).cell)
 have H1 := Lib.hid (fun W (hW : Below w.heap.size w W) => (h1.below hW).cell)
 have HPUT := Lib.hid (fun W (hW : Below w.heap.size w W) => put_acc (h.tab.below hW) hk hfx hp)
 have HONE := Lib.hid (fun W => one_any r.1 r.2.1 x W)
 have HREC := Lib.hid (fun W (hW : Below (w.alloc (.cells #[.int .i64 r.1, .int .i64 r.2.1, .int .i64 r.2.2] 34)).heap.size (w.alloc (.cells #[.int .i64 r.1, .int .i64 r.2.1, .int .i64 r.2.2] 34)) W) =>
  (show W.cell? ⟨w.heap.size, 0, none⟩ = some (.int .i64 r.1) ∧ W.cell? ⟨w.heap.size, 1, none⟩ = some (.int .i64 r.2.1) ∧ W.cell? ⟨w.heap.size, 2, none⟩ = some (.int .i64 r.2.2) from
   ⟨(hW.cell (p := ⟨w.heap.size, 0, none⟩) (by simp)).trans q0, (hW.cell (p := ⟨w.heap.size, 1, none⟩) (by simp)).trans q1, (hW.cell (p := ⟨w.heap.size, 2, none⟩) (by simp)).trans q2⟩))
 obtain ⟨A, hA⟩ : ∃ A, acc0 L r.2.1 = A := ⟨_, rfl⟩
 rw [hA] at hx HG HX
 simp only [hx] at HX
 clear h h1 h2 h3 h4 hb0 hs hk hx hfx hp hA
 obtain ⟨r1, r2, r3⟩ := r
 unfold rcA at HX ⊢
 dsimp only at HG HX HPUT HONE HREC HB0 q0 q1 q2 z1 ⊢
 go_enter Tryz.func122, Tryz.ntmps122
 go_wp2_with fail
 (with_reducible refine HG.out.mono ?_)
 rintro e w1 ⟨a, n, cap, f, rfl, hb1⟩
 have hbm := below_made w1 (.cells #[.int .i64 A, .slice a n cap] 77)
 have hbw := below_on' hb1 hbm
 have hbw0 := below_on' HB0.out hbw
 obtain ⟨p0, p1, p2⟩ := HREC.out _ hbw
 have p3 := H2.out _ hbw0
 obtain ⟨p4, -, -, -⟩ := (tbl.Box2.new w1 (A, a, n, cap)).facts
 dsimp only at p4
 have HX2 := Lib.hid (HX.out _ hbw0)
 have HBW := Lib.hid hbw
 have HBW0 := Lib.hid hbw0
 clear hb1 hbm hbw hbw0 HG HX
 go_wp2_with fail
 (with_reducible refine HX2.out.mono ?_)
 rintro e w2 ⟨rfl, hb2⟩
 have hbw := below_on' HBW.out hb2
 have hbw0 := below_on' HBW0.out hb2
 obtain ⟨s0, s1, s2⟩ := HREC.out _ hbw
 have s3 := H1.out _ hbw0
 have HP2 := Lib.hid (HPUT.out _ hbw0)
 have HBV := Lib.hid hbw
 have HBV0 := Lib.hid hbw0
 clear hb2 hbw hbw0 HX2 p0 p1 p2 p3 p4
 go_wp2_with fail
 (with_reducible refine HP2.out.mono ?_)
 rintro e w3 ⟨rfl, ht3, ho3⟩
 have hon : Only (Two t b) w w3 := (Only.of_below HBV0.out).then ho3
 have HRI := Lib.hid (HH.out.two ht3 hon)
 have hr3 : w3.heap[w.heap.size]? = some (.cells #[.int .i64 r1, .int .i64 r2, .int .i64 r3] 34 (0, 0)) := by
  have e1 := (HBV.out.block w.heap.size (by simp)).trans (Go.heap_alloc_new w (.cells #[.int .i64 r1, .int .i64 r2, .int .i64 r3] 34))
  exact only_two (HH.out.tab.below HBV0.out) ho3 e1 (fun cur fr e => by cases e) (fun es ck e => by cases e)
 have y0 : w3.cell? ⟨w.heap.size, 0, none⟩ = some (.int .i64 r1) := by rw [cell_of_row _ _ _ _ _ _ hr3]; rfl
 have y1 : w3.cell? ⟨w.heap.size, 1, none⟩ = some (.int .i64 r2) := by rw [cell_of_row _ _ _ _ _ _ hr3]; rfl
 have HON := Lib.hid hon
 clear ht3 ho3 hon hr3 HP2 s0 s1 s2 s3
 go_wp2_with fail
 refine (HONE.out _).mono ?_
 rintro e w4 ⟨v', rfl, ho4, hb4⟩
 obtain ⟨a4, c4, rfl⟩ := ho4.len
 have HF := Lib.hid (show ∃ v', Ending.returned (.slice a4 [(r1, r2, x)].length c4) = .returned v' ∧ Own w4 w.heap.size v' [(r1, r2, x)] ∧ RedI nv args B t b #[.pointer (some ⟨b1, 0, none⟩), .pointer (some ⟨b2, 0, none⟩)] L' w4 ∧ Only (Two t b) w w4 from
  ⟨_, rfl, ho4.base HON.out.size, HRI.out.stay (.of_below hb4), HON.out.on hb4⟩)
 clear ho4 hb4
 go_wp2
 go_ret
 exact HF.out
end
section
open Go.RowKit
attribute [local go_sem ↓] Go.wp_at_zero Go.wp_at_succ
open tbl (Only lt_of_get IsTab Two putO TabO Rows2 mkC GetPost PutPost)
open grp (below_on' below_made fits)
open exp (Ex Lies En intO exV enV)
theorem reduces_any (t : Nat) (c : Value) (nb : Nat) (w : World) : Calls Tryz.prog 84 #[.pointer (some ⟨t, 0, none⟩), .func (.func 76) #[] #[.pointer (some ⟨nb, 0, none⟩)]] w fun e w' =>
  ∃ b1 b2, e = .returned (.func (.func 122) #[] #[.pointer (some ⟨b1, 0, none⟩), .pointer (some ⟨b2, 0, none⟩)]) ∧ One w' b1 49 (.pointer (some ⟨t, 0, none⟩)) ∧
   One w' b2 149 (.func (.func 76) #[] #[.pointer (some ⟨nb, 0, none⟩)]) ∧ Below w.heap.size w w' := by
 have hb1 := below_made w (.cells #[.pointer (some ⟨t, 0, none⟩)] 49)
 have hb2 := below_made (w.alloc (.cells #[.pointer (some ⟨t, 0, none⟩)] 49)) (.cells #[.func (.func 76) #[] #[.pointer (some ⟨nb, 0, none⟩)]] 149)
 have ho1 := (One.new w 49 (.pointer (some ⟨t, 0, none⟩))).below hb2
 have ho2 := One.new (w.alloc (.cells #[.pointer (some ⟨t, 0, none⟩)] 49)) 149 (.func (.func 76) #[] #[.pointer (some ⟨nb, 0, none⟩)])
 rw [World.size_alloc] at ho2
 have HF := Lib.hid (And.intro ho1 (And.intro ho2 (below_on' hb1 hb2)))
 clear hb1 hb2 ho1 ho2
 go_enter Tryz.func84, Tryz.ntmps84
 go_wp2
 go_ret
 exact ⟨_, _, rfl, HF.out⟩
theorem picked_red (s : ByteArray) (ia : Option Addr) (il ic op : Nat) (xn : Int) (xa : Option Addr) (xl xc : Nat) (nn : Int) {args : List Ex} {B : Nat → Prop} {t b : Nat} {L : tbl.Rows} {w : World} (hl : Lies w B (.slice xa xl xc) args) (ht : IsTab w t b L) :
  Calls Tryz.prog 48 #[nodeV ⟨s, 6, ia, il, ic, op, xn, xa, xl, xc, nn⟩, .pointer (some ⟨t, 0, none⟩)] w fun e w' => ∃ bd, e = .returned (.func (.func 122) #[] bd) ∧ RedI ⟨s, 6, ia, il, ic, op, xn, xa, xl, xc, nn⟩ args B t b bd L w' ∧ Below w.heap.size w w' := by
 have hn := NBox.new w ⟨s, 6, ia, il, ic, op, xn, xa, xl, xc, nn⟩
 have hb1 := below_made w (.cells (Nv.cells ⟨s, 6, ia, il, ic, op, xn, xa, xl, xc, nn⟩) 48)
 have hb2 := below_made (w.alloc (.cells (Nv.cells ⟨s, 6, ia, il, ic, op, xn, xa, xl, xc, nn⟩) 48)) (.cells #[.func (.func 76) #[] #[.pointer (some ⟨w.heap.size, 0, none⟩)]] 149)
 have hn2 := hn.below hb2
 have hc := (One.new (w.alloc (.cells (Nv.cells ⟨s, 6, ia, il, ic, op, xn, xa, xl, xc, nn⟩) 48)) 149 (.func (.func 76) #[] #[.pointer (some ⟨w.heap.size, 0, none⟩)])).cell
 rw [World.size_alloc] at hc
 obtain ⟨c0, c1, c2, c3, c4, c5, c6⟩ := hn.facts
 obtain ⟨d0, d1, d2, d3, d4, d5, d6⟩ := hn2.facts
 have hbw := below_on' hb1 hb2
 have HF := Lib.hid (fun (b1 b2 : Nat) (w' : World) (h1 : One w' b1 49 (.pointer (some ⟨t, 0, none⟩))) (h2 : One w' b2 149 (.func (.func 76) #[] #[.pointer (some ⟨w.heap.size, 0, none⟩)])) (hb : Below _ _ w') =>
  (show RedI ⟨s, 6, ia, il, ic, op, xn, xa, xl, xc, nn⟩ args B t b #[.pointer (some ⟨b1, 0, none⟩), .pointer (some ⟨b2, 0, none⟩)] L w' ∧ Below w.heap.size w w' from
   ⟨⟨(ht.below hbw).below hb, b1, b2, w.heap.size, rfl, h1, h2, hn2.below hb, (hl.under hbw).under hb⟩, below_on' hbw hb⟩))
 have HR := Lib.hid (fun W => reduces_any t (.pointer none) w.heap.size W)
 unfold nodeV
 unfold Nv.cells at c0 c1 c2 c3 c4 c5 c6 d0 d1 d2 d3 d4 d5 d6 hc HF ⊢
 dsimp only at c0 c1 c2 c3 c4 c5 c6 d0 d1 d2 d3 d4 d5 d6 hc HF ⊢
 clear hn hn2 hb1 hb2 hbw hl ht
 go_enter Tryz.func48, Tryz.ntmps48
 go_wp2_with fail
 refine (HR.out _).mono ?_
 rintro e w1 ⟨b1, b2, rfl, h1, h2, hb⟩
 have HF2 := Lib.hid (HF.out b1 b2 w1 h1 h2 hb)
 clear h1 h2 hb
 go_wp2
 go_ret
 exact ⟨_, rfl, HF2.out⟩
theorem sr_made (w : World) (l : List Rc) (h0 : 0 < l.length) (hl : l.length ≤ 1000) (cs : Array Value) (hc : cs = (cellsR l).toArray) : Sr (w.alloc (.cells cs 34)) (.slice (some ⟨w.heap.size, 0, none⟩) l.length l.length) l := by
 subst hc
 refine ⟨_, _, rfl, (fun e => by cases e), Nat.le_refl _, by unfold maxLen; omega, fun _ => ⟨w.heap.size, 0, rfl, by simp, fun j u hu => ?_⟩⟩
 rw [cell_of_row _ _ _ _ _ _ (Go.heap_alloc_new w _), Nat.zero_add]
 simpa using hu
end
end Go.Proofs.YtepdecnegihhhaaGreatDoor.opr

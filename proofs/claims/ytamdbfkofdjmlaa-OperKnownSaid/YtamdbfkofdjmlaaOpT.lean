/- oper.Do: whatever the node does of a record. -/
import Derived.Test.YtamdbfkofdjmlaaOpS
namespace Go.Proofs.Ytamdbfkofdjmlaa.opr
set_option linter.unusedSimpArgs false
set_option linter.unusedVariables false
open Go.RowKit
attribute [local go_sem ↓] Go.wp_at_zero Go.wp_at_succ
open Go.Proofs.Ytamdbfkofdjmlaa.tbl (Only lt_of_get)
open Go.Proofs.Ytamdbfkofdjmlaa.grp (below_on' below_made)
def outsTo (outs : Nat → List Rc) (k : Nat) : List Rc := (List.range k).flatMap outs
theorem outsTo_succ (outs : Nat → List Rc) (k : Nat) : outsTo outs (k + 1) = outsTo outs k ++ outs k := by
  unfold outsTo
  rw [List.range_succ, List.flatMap_append]
  simp
theorem rec_box (w : World) (r : Rc) : (w.alloc (.cells #[.int .i64 r.1, .int .i64 r.2.1, .int .i64 r.2.2] 32)).cell? ⟨w.heap.size, 0, none⟩ = some (.int .i64 r.1) ∧ (w.alloc (.cells #[.int .i64 r.1, .int .i64 r.2.1, .int .i64 r.2.2] 32)).cell? ⟨w.heap.size, 1, none⟩ = some (.int .i64 r.2.1) ∧ (w.alloc (.cells #[.int .i64 r.1, .int .i64 r.2.1, .int .i64 r.2.2] 32)).cell? ⟨w.heap.size, 2, none⟩ = some (.int .i64 r.2.2) :=
  ⟨by rw [cell_of_row _ _ _ _ _ _ (Go.heap_alloc_new w _)]; rfl, by rw [cell_of_row _ _ _ _ _ _ (Go.heap_alloc_new w _)]; rfl, by rw [cell_of_row _ _ _ _ _ _ (Go.heap_alloc_new w _)]; rfl⟩
/-- What is no row of records stays. -/
def Stay (w w' : World) : Prop := ∀ (j : Nat) (ob : Obj), w.heap[j]? = some ob → (∀ (cur : Array Value) (fr : Nat × Nat), ob ≠ Obj.cells cur 32 fr) → w'.heap[j]? = some ob
theorem Stay.of_below {w w' : World} (h : Below w.heap.size w w') : Stay w w' := fun j ob hj _ => (h.block j (lt_of_get hj)).trans hj
theorem Stay.of_grown {w w' : World} {B : Nat} {v : Value} {l : List Rc} (h : Own w B v l) (hg : w.grownBy w' v.ownBlock) : Stay w w' := fun j ob hj hno => by
  rw [hg.block j (lt_of_get hj) (fun e => ?_)]
  · exact hj
  · rcases h.2 with ⟨e1, _⟩ | ⟨g, cap, cur, e1, e2, e3, _⟩
    · rw [e1] at e; cases e
    · rw [e1] at e
      have : j = g := by simpa [Value.ownBlock] using e
      subst this
      rw [hj] at e3
      exact hno _ _ (Option.some.inj e3)
/-- What has been made so far. -/
structure Seen (F : Nat → Prop) (I : World → Prop) (w : World) (v : Value) (out : List Rc) (wr : World) : Prop where
  own : Own wr w.heap.size v out
  inv : I wr
  only : Only F w wr
theorem Seen.sr {F : Nat → Prop} {I : World → Prop} {w wr : World} {v u : Value} {out l : List Rc} (h : Seen F I w v out wr) (hs : Sr w u l) (hu : ∀ a n c, u = .slice (some a) n c → ¬ F a.block) : Sr wr u l := hs.only h.only hu
theorem Seen.step {F : Nat → Prop} {I I' : World → Prop} {w wr w1 : World} {out q : List Rc} {v v1 : Value} {o : Obj} (h : Seen F I w v out wr) (hF : ∀ k, F k → k < w.heap.size)
    (h1 : Own w1 (wr.alloc o).heap.size v1 q) (h2 : I' w1) (h3 : Only F (wr.alloc o) w1) (hq : out.length + q.length ≤ 1000000) (hI : ∀ w' w'', I' w' → Stay w' w'' → I' w'') :
    ∃ v' w', (∀ ty, (Builtin.append_ #[22, 22] ty #[v, v1]).run Try.prog w1 = .ok v' w') ∧ Seen F I' w v' (out ++ q) w' := by
  have ho1 : Only F wr w1 := (Only.alloc F wr o).then h3
  have hw1 : Own w1 w.heap.size v out := own_only h.own ho1 hF
  have hsz : w.heap.size ≤ w1.heap.size := Nat.le_trans h.only.size ho1.size
  obtain ⟨v', w', k1, k2, k3, k4⟩ := hw1.app h1.sr hq hsz 0
  refine ⟨v', w', fun ty => k1, ⟨k2, hI w1 w' h2 (.of_grown hw1 k3), ?_⟩⟩
  have : Only (fun k => F k ∨ w.heap.size ≤ k) w w' := ((h.only.then ho1).mono (fun k hk => .inl hk)).then (.of_grown k3 (fun k hk => .inr (k4 k hk)))
  exact ⟨this.os, this.tape, this.output, this.size, fun k hk hn => this.block k hk (fun hf => hf.elim hn (fun h => by omega))⟩
set_option maxHeartbeats 6400000 in
set_option maxRecDepth 1000000 in
theorem do_any {w : World} {u : Value} {l : List Rc} (nv : Nv) (tv : Option Addr) (hs : Sr w u l) (hl : l.length ≤ 1000) (F : Nat → Prop) (hF : ∀ k, F k → k < w.heap.size) (hu : ∀ a n c, u = .slice (some a) n c → ¬ F a.block)
    (f : FuncId) (ef : ∀ args w, (callFunc f args).run Try.prog w = .ok (.enter f args) w) (I : Array Value → Nat → World → Prop) (outs : Nat → List Rc) (hout : ∀ k, (outsTo outs k).length ≤ 1000000)
    (hI : ∀ bd k w' w'', I bd k w' → Stay w' w'' → I bd k w'')
    (hp : ∀ w', Below w.heap.size w w' → Calls Try.prog 21 #[nodeV nv, .pointer tv] w' fun e w'' => ∃ bd, e = .returned (.func (.func f) #[] bd) ∧ I bd 0 w'' ∧ Below w'.heap.size w' w'')
    (hstep : ∀ bd k r w', l[k]? = some r → I bd k w' → Calls Try.prog f (#[rcA r] ++ bd) w' fun e w'' => ∃ v', e = .returned v' ∧ Own w'' w'.heap.size v' (outs k) ∧ I bd (k + 1) w'' ∧ Only F w' w'') :
    Calls Try.prog 7 #[nodeV nv, .pointer tv, u] w fun e w' => ∃ v', e = .returned v' ∧ Own w' w.heap.size v' (outsTo outs l.length) ∧ (∃ bd, I bd l.length w') ∧ Only F w w' := by
  obtain ⟨a, c, rfl⟩ := hs.len
  obtain ⟨n, hn⟩ : ∃ n, l.length = n := ⟨_, rfl⟩
  have HN := Lib.hid hn
  have hn1 : (n : Int) ≤ 1000 := by omega
  have hb0 := below_made w (.cells nv.cells 29)
  have HB0 := Lib.hid hb0
  have HP := Lib.hid (hp _ hb0)
  have HS := Lib.hid hs
  have HF := Lib.hid hF
  have HU := Lib.hid hu
  have HOUT := Lib.hid hout
  have HI := Lib.hid hI
  have HST := Lib.hid hstep
  obtain ⟨c0, c1, c2, c3, c4, c5, c6⟩ := (NBox.new w nv).facts
  rw [hn] at HU ⊢
  unfold nodeV Nv.cells at HP ⊢
  unfold Nv.cells at HB0 c0 c1 c2 c3 c4 c5 c6
  clear hs hl hF hu hout hI hp hstep hb0 hn
  go_enter Try.func7, Try.ntmps7
  go_wp2_with fail
  (with_reducible refine HP.out.mono ?_)
  rintro e w1 ⟨bd, rfl, hi1, hb1⟩
  have H0 : Hid (Seen F (I bd 0) w (.slice none 0 0) (outsTo outs 0) w1) := Lib.hid ⟨Own.nil _ _, hi1, .of_below (below_on' HB0.out hb1)⟩
  clear hi1 hb1
  go_wp2
  go_loopg [8, 16] n (fun g v8 v16 wr => ∃ k, v16 = .int .i64 (k : Nat) ∧ k + g = n ∧ Hid (Seen F (I bd k) w v8 (outsTo outs k) wr))
  case atStart => exact ⟨0, rfl, by omega, H0⟩
  case round =>
    clear H0
    obtain ⟨k, rfl, hk, HSE⟩ := hrel
    by_cases hlt : k < n
    · have hlt' : (k : Int) < (n : Int) := by omega
      have hk0 : (0 : Int) ≤ (k : Int) := by omega
      obtain ⟨r, gr⟩ := rec_at (l := l) (k := k) (by rw [HN.out]; exact hlt)
      obtain ⟨g, o, c', e1, e2, p1, p2, p3⟩ := (HSE.out.sr HS.out (by rw [HN.out]; exact HU.out)).at gr
      rw [HN.out] at e1
      injection e1 with e1a _ e1b
      subst e1a e1b
      have HGR := Lib.hid gr
      have HKK := Lib.hid (And.intro hk hlt)
      obtain ⟨q1, q2, q3⟩ := rec_box wr r
      have HC := Lib.hid (HST.out bd k r (wr.alloc (.cells #[.int .i64 r.1, .int .i64 r.2.1, .int .i64 r.2.2] 32)) gr (HI.out _ _ _ _ HSE.out.inv (.of_below (below_made _ _))))
      obtain ⟨r1, r2, r3⟩ := r
      unfold rcA at HC
      dsimp only at p1 p2 p3 q1 q2 q3 HC
      clear gr hk hlt e2
      go_wp2_with fail
      (with_reducible refine HC.out.mono ?_)
      rintro e w2 ⟨v1, rfl, ho1, hi1, hon1⟩
      obtain ⟨v', w', hr1, hr2⟩ := HSE.out.step HF.out ho1 hi1 hon1 (by rw [← List.length_append, ← outsTo_succ]; exact HOUT.out _) (HI.out bd (k + 1))
      rw [← outsTo_succ] at hr2
      have HR1 := Lib.hid hr1
      have HR2 := Lib.hid hr2
      clear ho1 hi1 hon1 hr1 hr2
      go_wp2_with (at_builtin; refine wpList_appR rfl (.tmp 20) (.tmp 23) 22 rfl rfl rfl (HR1.out _) ?_)
      go_roundg (n - (k + 1))
      case measure => have := HKK.out; omega
      case rel => exact ⟨k + 1, rfl, by have := HKK.out; omega, HR2⟩
    · have hlt' : ¬ ((k : Int) < (n : Int)) := by omega
      obtain ⟨a8, c8, hv8⟩ := HSE.out.own.len
      subst hv8
      have HE := Lib.hid (show ∃ v', Ending.returned (.slice a8 (outsTo outs k).length c8) = .returned v' ∧ Own wr w.heap.size v' (outsTo outs n) ∧ (∃ bd', I bd' n wr) ∧ Only F w wr from
        ⟨_, rfl, by have := HSE.out.own; rwa [show k = n by omega] at this ⊢, ⟨bd, by have := HSE.out.inv; rwa [show k = n by omega] at this⟩, HSE.out.only⟩)
      clear hlt hk
      go_wp2
      go_ret
      exact HE.out
end Go.Proofs.Ytamdbfkofdjmlaa.opr

/- What Open does, on a disk whose power is not told to go and on which nothing is loose. -/
import Derived.Test.YtbnnbaoimidfnaaE
import Derived.Test.YtbnnbaoimidfnaaGp
namespace Go.Proofs.Ytbnnbaoimidfnaa.lg
set_option linter.unusedSimpArgs false
set_option linter.unusedVariables false
open Go.RowKit byt frm dsk
open Go.Shelf
attribute [local go_sem] Oper.semAt_some

/-- On, the power not told to go, nothing loose. -/
structure Settled (x : D) : Prop where
  off : x.off = false
  left : x.left = -1
  loose : x.loose = []
theorem Settled.fresh (n : Nat) : Settled (D.fresh n) := ⟨rfl, rfl, rfl⟩
theorem Settled.crash (x : D) (n b : Int) : Settled (x.crash n b) := ⟨rfl, rfl, rfl⟩
def openD (x : D) (f : Nat) : D := if whl (all (x.now f)) < (x.now f).size then (x.cut f (whl (all (x.now f)) : Nat)).2.sync.2 else x
def openL (x : D) (f : Nat) : Lg := ⟨f, all (x.now f), (all (x.now f)).length, false⟩
theorem op_left {x : D} (h : x.left = -1) : x.op.1 = 0 ∧ x.op.2.off = x.off ∧ x.op.2.left = -1 := by
  unfold D.op
  rw [if_neg (by rw [h]; decide)]
  exact ⟨rfl, rfl, if_pos h⟩
theorem open_steps {x : D} (h : Settled x) {f : Nat} (hf : f < 16) : ∃ x1, x.cut f (whl (all (x.now f)) : Nat) = (0, x1) ∧ x1.sync = (0, (x.cut f (whl (all (x.now f)) : Nat)).2.sync.2) ∧ Settled (x.cut f (whl (all (x.now f)) : Nat)).2.sync.2 ∧ (x.cut f (whl (all (x.now f)) : Nat)).2.sync.2.now f = bytesOf (all (x.now f)) := by
  obtain ⟨n, hn⟩ : ∃ n, whl (all (x.now f)) = n := ⟨_, rfl⟩
  have hle : n ≤ (x.now f).size := by rw [← hn]; exact all_whl _
  have hfr : (x.now f).extract 0 n = bytesOf (all (x.now f)) := by rw [← hn]; exact all_front _
  rw [hn]
  have hfl : isFile (f : Int) = true := isFile_iff.2 ⟨by omega, by omega⟩
  obtain ⟨h1, h2, h3⟩ := op_left h.left
  have hc : x.cut f n = (0, { x.op.2 with loose := x.loose ++ [.cut f n] }) := by
    unfold D.cut
    rw [if_neg (by rw [h.off]; decide), if_neg (by rw [hfl]; decide), Int.toNat_natCast, if_neg (by omega)]
    unfold D.chg
    rw [if_pos h1, Int.toNat_natCast]
  have hnow := cut_now hc
  rw [if_pos rfl] at hnow
  rw [hc]
  obtain ⟨x1, hx1⟩ : ∃ x1 : D, { x.op.2 with loose := x.loose ++ [.cut f n] } = x1 := ⟨_, rfl⟩
  rw [hx1] at hnow ⊢
  have ho1 : x1.off = false := by rw [← hx1]; exact h2.trans h.off
  have hl1 : x1.left = -1 := by rw [← hx1]; exact h3
  obtain ⟨k1, k2, k3⟩ := op_left hl1
  have hsy : x1.sync = (0, { x1.op.2 with sure := x1.now, loose := [] }) := by
    unfold D.sync
    rw [if_neg (by rw [ho1]; decide), if_pos k1]
  have hsn := sync_now hsy
  have hsy2 : x1.sync.2 = { x1.op.2 with sure := x1.now, loose := [] } := by rw [hsy]
  refine ⟨x1, rfl, by show x1.sync = (0, x1.sync.2); rw [hsy], ?_⟩
  show Settled x1.sync.2 ∧ x1.sync.2.now f = _
  rw [hsy2]
  refine ⟨⟨k2.trans ho1, k3, rfl⟩, ?_⟩
  show D.now { x1.op.2 with sure := x1.now, loose := [] } f = _
  rw [hsn, hnow, upd_same, hfr]
theorem openD_settled {x : D} (h : Settled x) {f : Nat} (hf : f < 16) : Settled (openD x f) ∧ (openD x f).now f = bytesOf (all (x.now f)) := by
  unfold openD
  split
  · obtain ⟨x1, _, _, h3, h4⟩ := open_steps h hf
    exact ⟨h3, h4⟩
  · rename_i hlt
    have := all_whl (x.now f)
    exact ⟨h, all_whole (by omega)⟩
theorem openL_ok {x : D} (h : Settled x) {f : Nat} (hf : f < 16) : (openL x f).Ok (openD x f) := ⟨hf, (openD_settled h hf).2, all_fine _, Nat.le_refl _⟩

def OpenPost (F : Nat → Prop) (d : Nat) (x : D) (f : Nat) (w : World) (e : Ending) (w' : World) : Prop :=
  ∃ l, e = .returned (.tuple #[ptr l 0, .int .i64 0]) ∧ IsLog w' (Grow F w w') l d (openD x f) (openL x f) ∧ Only F w w'
theorem new_cell (W : World) (v : Value) (t : TypeId) : (W.alloc (.cells #[v] t)).cell? ⟨W.heap.size, 0, none⟩ = some v := by simp
/-- What stands while the frames are gone over. -/
structure Going (w0 : World) (l bl d f : Nat) (pre : List Fr) (W : World) : Prop where
  ex : ∃ v, LogAt W l d ⟨f, pre, 0, false⟩ v ∧ ∀ g, v.ownBlock = some g → w0.heap.size ≤ g
  box : Box W bl 26 (ptr l 0)
theorem Going.kept {w0 W W' : World} {l bl d f : Nat} {pre : List Fr} {row : Option Nat} (h : Going w0 l bl d f pre W) (hg : W.grownBy W' row) (hr : ∀ r, row = some r → ∃ o : Obj, W.heap[r]? = some o ∧ o.isCells = false) : Going w0 l bl d f pre W' := by
  obtain ⟨v, hat, hv⟩ := h.ex
  obtain ⟨c, hl, _⟩ := hat.row
  refine ⟨⟨v, hat.frame ?_ fun g hg' => ?_, hv⟩, (grownBy_keeps_cells hg hr h.box rfl).trans h.box⟩
  · exact grownBy_keeps_cells hg hr hl rfl
  · obtain ⟨cur, hc⟩ := hat.recs.kind hg'
    exact grownBy_keeps_cells hg hr hc rfl
theorem going_on {w0 W w2 w3 : World} {l bl d f : Nat} {pre : List Fr} {r : Fr} {v : Value} (hbox : Box W bl 26 (ptr l 0)) (hat : LogAt W l d ⟨f, pre, 0, false⟩ v) (hv : ∀ g, v.ownBlock = some g → w0.heap.size ≤ g) (hl : w0.heap.size ≤ l)
    (hB : Below w0.heap.size w0 W) (hb : Below W.heap.size W w2) (ha : Added w2 w3 l d ⟨f, pre, 0, false⟩ v r) : KeepsOthers W w3 ∧ Going w0 l bl d f (pre ++ [r]) w3 ∧ Below w0.heap.size w0 w3 := by
  obtain ⟨⟨v', hat', hv'⟩, ho⟩ := ha
  have h1 := hB.size
  have h2 := hb.size
  obtain ⟨c, hlc, _⟩ := hat.row
  have hkb : ∀ k C T fr, W.heap[k]? = some (Obj.cells C T fr) → T ≠ 54 → T ≠ 62 → w3.heap[k]? = some (Obj.cells C T fr) := fun k C T fr hk h54 h62 => by
    have hlt := (Array.getElem?_eq_some_iff.1 hk).1
    rw [ho.block k (by omega) fun hq => ?_, hb.block k hlt, hk]
    rcases hq with rfl | hq
    · exact absurd rfl (kind_ne hk hlc h54)
    · obtain ⟨cur, hc⟩ := hat.recs.kind hq
      exact absurd rfl (kind_ne hk hc h62)
  refine ⟨⟨by have := ho.size; omega, fun k o hk hc => ?_⟩, ⟨⟨v', hat', fun g hg => ?_⟩, hkb _ _ _ _ hbox (by decide) (by decide)⟩, ⟨?_, ?_, ?_, ?_, fun k hk => ?_⟩⟩
  · have hlt := (Array.getElem?_eq_some_iff.1 hk).1
    rw [ho.block k (by omega) fun hq => ?_, hb.block k hlt, hk]
    rcases hq with rfl | hq
    · rw [hlc] at hk; cases hk; cases hc
    · obtain ⟨cur, hc'⟩ := hat.recs.kind hq
      rw [hc'] at hk; cases hk; cases hc
  · rcases (hv' g hg).1 with h | h
    · exact hv g h
    · omega
  · exact ho.os.trans (hb.os.trans hB.os)
  · exact ho.tape.trans (hb.tape.trans hB.tape)
  · exact ho.output.trans (hb.output.trans hB.output)
  · have := ho.size; omega
  · rw [ho.block k (by omega) fun hq => ?_, hb.block k (by omega), hB.block k hk]
    rcases hq with rfl | hq
    · omega
    · have := hv k hq; omega
theorem open_end {w w2 : World} {F F' G : Nat → Prop} {l d D f : Nat} {x3 : dsk.D} {L : List Fr} {v : Value} {o' : Obj} (hF : ∀ k, F k → k < w.heap.size) (hl : w.heap.size ≤ l) (hp : Parts w2 G F' l d x3 ⟨f, L, 0, false⟩ v) (hG : ∀ k, G k → F k ∨ w.heap.size ≤ k) (hGD : ¬ G D) (hD : w.heap.size ≤ D)
    (ho : Only (fun k => F k ∨ w.heap.size ≤ k) w w2) (hok : Lg.Ok ⟨f, L, L.length, false⟩ x3) :
    IsLog ((w2.setCell ⟨l, 4, none⟩ (.int .i64 (L.length : Nat))).putObj D o') (Grow F w ((w2.setCell ⟨l, 4, none⟩ (.int .i64 (L.length : Nat))).putObj D o')) l d x3 ⟨f, L, L.length, false⟩ ∧ Only F w ((w2.setCell ⟨l, 4, none⟩ (.int .i64 (L.length : Nat))).putObj D o') := by
  obtain ⟨w4, e4⟩ : ∃ w4, (w2.setCell ⟨l, 4, none⟩ (.int .i64 (L.length : Nat))).putObj D o' = w4 := ⟨_, rfl⟩
  have hsz : w4.heap.size = w2.heap.size := by rw [← e4]; simp
  have hoth : ∀ k, k ≠ l → k ≠ D → w4.heap[k]? = w2.heap[k]? := fun k h1 h2 => by
    rw [← e4, World.putObj_heap_other h2, heap_setCell_other _ _ _ _ h1]
  have hs1 := ho.size
  have hlD : l ≠ D := fun e => hGD (e ▸ hp.gl)
  have hrow : LogAt w4 l d ⟨f, L, L.length, false⟩ v := by
    refine LogAt.frame (LogAt.set (y' := ⟨f, L, L.length, false⟩) hp.log 4 (.int .i64 (L.length : Nat)) (fun j hj => ?_) rfl) ?_ fun g hg => ?_
    · unfold cellsL
      by_cases h4 : j = 4
      · subst h4; rfl
      · simp [h4]
    · rw [← e4, World.putObj_heap_other hlD]
    · rw [← e4, World.putObj_heap_other (fun e => hGD (by first | (rw [← e]; exact hp.gv g hg) | (rw [e]; exact hp.gv g hg)))]
  have hlt : ∀ k, G k → k < w4.heap.size := fun k hk => by rw [hsz]; exact hp.lt k hk
  have hGG : ∀ k, G k → Grow F w w4 k := fun k hk => (hG k hk).elim .inl fun h => .inr ⟨h, hlt k hk⟩
  rw [e4]
  refine ⟨⟨F', v, ⟨hp.disk.frame (fun k hk => hoth k (fun e => hp.fl (e ▸ hk)) fun e => hGD (e ▸ hp.fG k hk)) (by omega), hrow, hp.fl, hp.fv, fun k hk => hGG k (hp.fG k hk), hGG l hp.gl, fun g hg => hGG g (hp.gv g hg), fun k hk => ?_⟩, hok⟩, ⟨?_, ?_, ?_, by omega, fun k hk hn => ?_⟩⟩
  · rcases hk with hk | ⟨_, hk⟩
    · have := hF k hk; omega
    · exact hk
  · rw [← e4]; exact ho.os
  · rw [← e4]; exact ho.tape
  · rw [← e4]; exact ho.output
  · rw [hoth k (by omega) (by omega), ho.block k hk fun h => h.elim hn (by omega)]
theorem only_parts {w W w2 : World} {F G0 : Nat → Prop} (hB : Below w.heap.size w W) (hG : ∀ k, G0 k → F k ∨ w.heap.size ≤ k) (h : Only G0 W w2) : Only (fun k => F k ∨ w.heap.size ≤ k) w w2 :=
  (Only.of_below hB).then (h.mono hG)
/-- The blocks of a log that was just made. -/
def Own0 (F : Nat → Prop) (l : Nat) (v : Value) : Nat → Prop := fun k => F k ∨ k = l ∨ v.ownBlock = some k
theorem parts0 {w W : World} {F : Nat → Prop} {l d f : Nat} {x : dsk.D} {L : List Fr} {v : Value} (hx : IsDisk w F d x) (hB : Below w.heap.size w W) (hl : w.heap.size ≤ l) (hat : LogAt W l d ⟨f, L, 0, false⟩ v) (hv : ∀ g, v.ownBlock = some g → w.heap.size ≤ g) :
    Parts W (Own0 F l v) F l d x ⟨f, L, 0, false⟩ v := by
  refine ⟨hx.below hB, hat, fun h => ?_, fun g hg h => ?_, fun k hk => .inl hk, .inr (.inl rfl), fun g hg => .inr (.inr hg), fun k hk => ?_⟩
  · have := hx.lt h; omega
  · have := hx.lt h; have := hv g hg; omega
  · rcases hk with hk | rfl | hk
    · have := hx.lt hk; have := hB.size; omega
    · exact hat.lt
    · exact hat.recs.lt hk
theorem own0_D {w W : World} {F : Nat → Prop} {l d f D : Nat} {x : dsk.D} {L : List Fr} {v : Value} {ds : Option (List Deferred)} (hx : IsDisk w F d x) (hat : LogAt W l d ⟨f, L, 0, false⟩ v) (hD : w.heap.size ≤ D) (hK : W.heap[D]? = some (.deferred ds)) : ¬ Own0 F l v D := by
  rintro (h | rfl | h)
  · have := hx.lt h; omega
  · obtain ⟨c, hc, _⟩ := hat.row
    rw [hc] at hK; cases hK
  · obtain ⟨c, hc⟩ := hat.recs.kind h
    rw [hc] at hK; cases hK
theorem own0_new {w : World} {F : Nat → Prop} {l : Nat} {v : Value} (hl : w.heap.size ≤ l) (hv : ∀ g, v.ownBlock = some g → w.heap.size ≤ g) : ∀ k, Own0 F l v k → F k ∨ w.heap.size ≤ k := by
  rintro k (h | rfl | h)
  · exact .inl h
  · exact .inr hl
  · exact .inr (hv k h)
theorem parts_new (w1 : World) (d f : Nat) (o1 o2 : Obj) : LogAt (((w1.alloc (.cells #[ptr d 0, .int .i64 (f : Nat), .int .i64 0, .slice none 0 0, .int .i64 0, .bool false] 54)).alloc o1).alloc o2) w1.heap.size d ⟨f, [], 0, false⟩ (.slice none 0 0) := by
  refine ⟨World.rowIs.alloc (World.rowIs.alloc ((World.rowIs_alloc w1 #[ptr d 0, .int .i64 (f : Nat), .int .i64 0, .slice none 0 0, .int .i64 0, .bool false] 54 (cellsL d ⟨f, [], 0, false⟩ (.slice none 0 0)) fun i hi => ?_)) o1) o2, Row.nil _ _ _⟩
  have hi' : i < 6 := hi
  match i, hi' with
  | 0, _ => rfl
  | 1, _ => rfl
  | 2, _ => rfl
  | 3, _ => rfl
  | 4, _ => rfl
  | 5, _ => rfl
set_option maxRecDepth 1000000 in
set_option maxHeartbeats 2000000 in
theorem open_any {x : D} {F : Nat → Prop} {w : World} {d f : Nat} (hs : Settled x) (hf : f < 16) (hx : IsDisk w F d x) : Calls Try.prog 8 #[ptr d 0, .int .i64 f] w (OpenPost F d x f w) := by
  obtain ⟨s, es⟩ : ∃ s, x.now f = s := ⟨_, rfl⟩
  have hsz : s.size ≤ 4194304 := by rw [← es]; exact Nat.le_trans (D.now_size hx.ok hf) hx.ok.room2
  have hs' : s.size ≤ 9223372036854775807 := by omega
  have hrd : x.read f = (s, 0) := by
    unfold D.read
    rw [if_neg (by rw [hs.off]; decide), if_neg (by rw [isFile_iff.2 ⟨by omega, by omega⟩]; decide), Int.toNat_natCast, es]
  have HRD := Lib.hid (read_at hrd w F d hx)
  have HX := Lib.hid hx
  have HS := Lib.hid hs
  have HE := Lib.hid es
  clear hrd hx hs es
  refine (callsIn_wide (n := 3)).1 ?_
  refine callsIn_of_wp_marks Try.func8 rfl trivial ?_ rfl
  simp only [Try.ntmps8, List.size_toArray, List.length_cons, List.length_nil, Nat.reduceAdd, Nat.reduceSub, Array.replicate_succ, Array.replicate_zero, List.push_toArray, List.append_toArray, List.nil_append, List.cons_append]
  gi_wp2_with fail
  refine ⟨trivial, (callsIn_wide.2 HRD.out).mono ?_⟩
  rintro e w1 ⟨rfl, hb⟩
  have HB := Lib.hid hb
  clear hb
  gi_wp2_with (refine ⟨trivial, ?_⟩; gi_at_call 20; ((with_reducible refine (callsIn_wide.2 (all_in s _)).mono ?_); rintro e w' ⟨rfl, rfl⟩))
  generalize hW5 : (((w1.alloc (Obj.cells #[ptr d 0, Value.int .i64 (f : Nat), Value.int .i64 0, Value.slice none 0 0, Value.int .i64 0, Value.bool false] 54)).alloc (Obj.cells #[Value.pointer (some ⟨w1.heap.size, 0, none⟩)] 26)).alloc (Obj.cells #[Value.string s] 9)) = W5
  have hz1 := HB.out.size
  have hz5 : W5.heap.size = w1.heap.size + 3 := by rw [← hW5]; simp only [World.size_alloc]
  have hat5 : LogAt W5 w1.heap.size d ⟨f, [], 0, false⟩ (.slice none 0 0) := by rw [← hW5]; exact parts_new w1 d f _ _
  have hbx5 : Box W5 (w1.heap.size + 1) 26 (ptr w1.heap.size 0) := by
    rw [← hW5]
    have := heap_alloc_new (w1.alloc (Obj.cells #[ptr d 0, Value.int .i64 (f : Nat), Value.int .i64 0, Value.slice none 0 0, Value.int .i64 0, Value.bool false] 54)) (Obj.cells #[Value.pointer (some ⟨w1.heap.size, 0, none⟩)] 26)
    rw [World.size_alloc] at this
    exact (heap_alloc_old _ _ (by simp)).trans this
  have hcs : W5.cell? ⟨w1.heap.size + 2, 0, none⟩ = some (.string s) := by
    rw [← hW5]
    have := new_cell ((w1.alloc (Obj.cells #[ptr d 0, Value.int .i64 (f : Nat), Value.int .i64 0, Value.slice none 0 0, Value.int .i64 0, Value.bool false] 54)).alloc (Obj.cells #[Value.pointer (some ⟨w1.heap.size, 0, none⟩)] 26)) (.string s) 9
    rwa [World.size_alloc, World.size_alloc] at this
  have hB5 : Below w.heap.size w W5 := by rw [← hW5]; exact ((HB.out.alloc HB.out.size _).alloc (by rw [World.size_alloc]; omega) _).alloc (by rw [World.size_alloc, World.size_alloc]; omega) _
  clear hW5
  refine wpIn_rangeFunc_ownF rfl (by omega) (gf := 29) (lb := #[.pointer (some ⟨w1.heap.size + 2, 0, none⟩)]) rfl trivial (enters_of Try.func29 (by kernel_rfl) rfl)
    (all_pos _ (w1.heap.size + 2) s hs' _ (by omega) hcs) (fun _ _ => trivial) (fun _ _ _ _ _ _ _ _ => trivial) (Below.refl _ _) (fun _ => rfl)
    (fun pre W => Going w w1.heap.size (w1.heap.size + 1) d f (pre.map (·.1)) W ∧ Below w.heap.size w W)
    (fun _ _ _ => False)
    (OwnFrom.and (Own.from (fun s A B row hs hg hr => hs.kept hg hr) _) (ownFrom_below (Nat.le_refl _) (by omega)))
    (fun _ _ _ _ _ hs _ _ => hs)
    ⟨⟨⟨_, hat5, fun g hg => by simp [Value.ownBlock] at hg⟩, hbx5⟩, hB5⟩
    ?a1 ?assign ?body ?done ?stop
  case assign =>
    intro l x W K hK
    gi_wp2
    exact hK
  case body =>
    rintro l pre ⟨⟨⟨k, p⟩, hkp⟩, hk0⟩ W ⟨hgo, hB⟩ hlen
    obtain ⟨⟨v, hat, hv⟩, hbox⟩ := hgo
    have hkp' : k < 256 ∧ p.size ≤ 65536 := hkp
    have hk0' : 0 < k := hk0
    obtain ⟨t, ht⟩ : ∃ t, fb ⟨(k, p), hkp⟩ = t := ⟨_, rfl⟩
    obtain ⟨n, hn⟩ : ∃ n, t.size = n := ⟨_, rfl⟩
    have HF := Lib.hid (show fsz ⟨(k, p), hkp⟩ = n by rw [← fb_size, ht, hn])
    have hpf : putF k p = (t, 0) := by rw [← ht]; exact putF_fine (by omega) hkp'.2
    have HC := Lib.hid (putF_at hpf W hkp'.1 (by omega))
    have HN := Lib.hid hn
    have hl1 : (pre.map (·.1)).length ≤ 4194304 := by rw [List.length_map]; have := whl_len (all s); have := all_whl s; omega
    have hl2 : whl (pre.map (·.1)) ≤ 1099511627776 := by have := whl_le (pre.map (·.1)); omega
    have HAT := Lib.hid (fun w2 (hb : Below W.heap.size W w2) => add_any ⟨(k, p), hkp⟩ n HF.out w2 (hat.below hb) (by show (pre.map (·.1)).length ≤ _; omega) hl2)
    have HBX := Lib.hid (fun w2 (hb : Below W.heap.size W w2) => (show w2.cell? ⟨w1.heap.size + 1, 0, none⟩ = some (ptr w1.heap.size 0) by
      rw [cell_of_row _ _ _ _ _ _ ((hb.block _ (Array.getElem?_eq_some_iff.1 hbox).1).trans hbox)]; rfl))
    have HEND := Lib.hid (fun w2 w3 (hb : Below W.heap.size W w2) (ha : Added w2 w3 w1.heap.size d ⟨f, pre.map (·.1), 0, false⟩ v ⟨(k, p), hkp⟩) => going_on hbox hat hv hz1 hB hb ha)
    clear hpf ht hn hl1 hl2 hat hbox hv hB hlen hcs hbx5 hat5 hB5 hk0'
    dsimp only [encp, encs]
    gi_wp2_with fail
    refine ⟨trivial, (callsIn_wide.2 HC.out).mono ?_⟩
    rintro e w2 ⟨rfl, hb⟩
    have hbx := HBX.out w2 hb
    have HB2 := Lib.hid hb
    clear hb
    gi_wp2_with fail
    rw [HN.out]
    refine ⟨trivial, (callsIn_wide.2 (HAT.out w2 HB2.out)).mono ?_⟩
    rintro e w3 ⟨rfl, ha⟩
    have HA := Lib.hid ha
    clear ha
    gi_wp2_with fail
    obtain ⟨h1, h2, h3⟩ := HEND.out w2 w3 HB2.out HA.out
    refine ⟨h1, trivial, ?_, h3⟩
    show Going w w1.heap.size (w1.heap.size + 1) d f (List.map (fun x => x.val) (pre ++ [_])) w3
    rw [List.map_append]
    exact h2
  case done =>
    rintro D ys W hD hys ⟨⟨⟨v, hat, hv⟩, hbox⟩, hB⟩ hK
    have hys' : List.map (fun x => x.val) ys = all s := hys
    rw [hys'] at hat
    clear hys' hys
    obtain ⟨L, hL⟩ : ∃ L, all s = L := ⟨_, rfl⟩
    obtain ⟨m, hm⟩ : ∃ m, whl L = m := ⟨_, rfl⟩
    rw [hL] at hat
    obtain ⟨a, cap, ev⟩ := hat.recs.len
    dsimp only at ev
    have hp := parts0 HX.out hB hz1 hat hv
    have hGD := own0_D HX.out hat (by omega) hK
    have hGn := own0_new (F := F) hz1 hv
    have HP := Lib.hid hp
    have HG := Lib.hid (And.intro hGD hGn)
    have c2 := hat.cell2
    have c3 := hat.cell3
    have c4 := hat.cell4
    have f4 := hat.row.frozen 4
    dsimp only at c2 c3 c4
    rw [hm] at c2
    have cb : W.cell? ⟨w1.heap.size + 1, 0, none⟩ = some (ptr w1.heap.size 0) := by rw [cell_of_row _ _ _ _ _ _ hbox]; rfl
    have HBW := Lib.hid hB
    have HL := Lib.hid (And.intro hL hm)
    have HK := Lib.hid hK
    have hDw : w.heap.size ≤ D := by omega
    rcases Nat.lt_or_ge m s.size with hlt | hge
    · obtain ⟨x1, h1, h2, h3, h4⟩ := open_steps HS.out hf
      have eO : openD x f = (x.cut f (whl (all (x.now f)) : Nat)).2.sync.2 := by
        unfold openD
        rw [if_pos (by rw [HE.out, hL, hm]; exact hlt)]
      have hok := openL_ok HS.out hf
      unfold openL at hok
      rw [← eO] at h2 h3 h4
      rw [HE.out, hL] at h1 h4 hok
      have HO := Lib.hid hok
      have HSH := Lib.hid (short_any hp h1 h2 (by rw [HS.out.loose]; decide))
      have hlt' : (m : Int) < (s.size : Int) := by omega
      have hne : ¬ Own0 F w1.heap.size v (w1.heap.size + 1) := by
        rintro (h | h | h)
        · have := HX.out.lt h; omega
        · omega
        · obtain ⟨cur, hc⟩ := hat.recs.kind h
          exact absurd rfl (kind_ne hc hbox (by decide))
      have HNE := Lib.hid hne
      have HBX := Lib.hid hbox
      clear hp hat hv hbox hB hL hm hK hGD hGn h1 h2 h3 h4 eO hok hne hlt hcs hbx5 hat5 hB5 c3 c4 f4
      gi_wp2_with fail
      refine ⟨trivial, (callsIn_wide.2 HSH.out).mono ?_⟩
      rintro e w2 ⟨rfl, ⟨F', hp2⟩, ho2⟩
      have c3 := hp2.log.cell3
      have c4 := hp2.log.cell4
      have f4 := hp2.log.row.frozen 4
      dsimp only at c3 c4
      rw [ev] at c3
      have cb2 : w2.cell? ⟨w1.heap.size + 1, 0, none⟩ = some (ptr w1.heap.size 0) := by
        rw [cell_of_row _ _ _ _ _ _ ((ho2.block _ (Array.getElem?_eq_some_iff.1 HBX.out).1 HNE.out).trans HBX.out)]; rfl
      have HP2 := Lib.hid hp2
      have HO2 := Lib.hid ho2
      clear hp2 ho2 cb c2
      gi_wp2_with fail
      gi_region
      gi_wp2_with fail
      have hK2 : ((w2.setCell ⟨w1.heap.size, 4, none⟩ (.int .i64 (L.length : Nat))).drew).heap[D]? = some (.deferred (some [])) := by
        show ((w2.setCell ⟨w1.heap.size, 4, none⟩ (.int .i64 (L.length : Nat)))).heap[D]? = _
        rw [heap_setCell_other _ _ _ _ (by rintro rfl; exact HG.out.1 (.inr (.inl rfl))), HO2.out.block D (Array.getElem?_eq_some_iff.1 HK.out).1 HG.out.1]
        exact HK.out
      refine ⟨by simp, .inl ⟨_, _, rfl, run_takeDeferred hK2, ?_⟩⟩
      refine ⟨_, results_tmp2 rfl _ _ _, ?_⟩
      have hfin := open_end (w := w) (w2 := w2.drew) (F := F) (G := Grow (Own0 F w1.heap.size v) W w2) (D := D) (o' := .deferred none) (fun k hk => HX.out.lt hk) hz1 (HP2.out.frame (fun _ _ => rfl) (Nat.le_refl _)) (fun k hk => ?_) (fun h => ?_) hDw ?_ HO.out
      · refine ⟨w1.heap.size, rfl, ?_, hfin.2⟩
        unfold openL
        rw [HE.out, HL.out.1]
        exact hfin.1
      · rcases hk with hk | ⟨hk, _⟩
        · exact HG.out.2 k hk
        · have := HBW.out.size; exact .inr (by omega)
      · rcases h with h | ⟨h, _⟩
        · exact HG.out.1 h
        · have := (Array.getElem?_eq_some_iff.1 HK.out).1; omega
      · have := only_parts HBW.out HG.out.2 HO2.out
        exact ⟨this.os, this.tape, this.output, this.size, this.block⟩
    · have eO : openD x f = x := by
        unfold openD
        rw [if_neg (by rw [HE.out, hL, hm]; omega)]
      have hok := openL_ok HS.out hf
      unfold openL at hok
      rw [eO, HE.out, hL] at hok
      have HO := Lib.hid hok
      have HEO := Lib.hid eO
      have hge' : (s.size : Int) ≤ (m : Int) := by omega
      rw [ev] at c3
      clear hp hat hv hbox hB hL hm hK hGD hGn eO hok hge hcs hbx5 hat5 hB5
      gi_wp2_with fail
      gi_region
      gi_wp2_with fail
      have hK2 : ((W.setCell ⟨w1.heap.size, 4, none⟩ (.int .i64 (L.length : Nat))).drew).heap[D]? = some (.deferred (some [])) := by
        show ((W.setCell ⟨w1.heap.size, 4, none⟩ (.int .i64 (L.length : Nat)))).heap[D]? = _
        rw [heap_setCell_other _ _ _ _ (by rintro rfl; exact HG.out.1 (.inr (.inl rfl)))]
        exact HK.out
      refine ⟨by simp, .inl ⟨_, _, rfl, run_takeDeferred hK2, ?_⟩⟩
      refine ⟨_, results_tmp2 rfl _ _ _, ?_⟩
      have hfin := open_end (w := w) (w2 := W.drew) (F := F) (G := Own0 F w1.heap.size v) (D := D) (o' := .deferred none) (fun k hk => HX.out.lt hk) hz1 (HP.out.frame (fun _ _ => rfl) (Nat.le_refl _)) HG.out.2 HG.out.1 hDw ?_ HO.out
      · refine ⟨w1.heap.size, rfl, ?_, hfin.2⟩
        unfold openL
        rw [HEO.out, HE.out, HL.out.1]
        exact hfin.1
      · have := only_parts (F := F) HBW.out HG.out.2 (Only.refl _ W)
        exact ⟨this.os, this.tape, this.output, this.size, this.block⟩
  case stop =>
    rintro D c pre W _ _ h _
    exact h.elim
end Go.Proofs.Ytbnnbaoimidfnaa.lg

/- Communication in one goroutine within a walk: an operation of a region that sends, receives or selects; a region whose order is drawn. -/
import Derived.Test.YtknldabnkaecdaaRows
import Derived.Conc.LoneCalls
import Derived.Conc.LoneSelect
import Derived.Conc.LoneSelectN
import Derived.Orders
namespace Go.Proofs.Ytknldabnkaecdaa.pip
set_option linter.unusedSimpArgs false
set_option linter.unusedVariables false
open Go.Conc

/-- Operation i of a region comes up, and is over: K holds. -/
def OpTo (P : Program) (ops : Array Oper) (i : Nat) (K : Act → World → Prop) (a : Act) (w : World) : Prop :=
  ∃ a' w', K a' w' ∧ ∀ (b : Frame) (k : List Item) (cs : List Frame) (rest : List Nat),
    Steps P (lone (b.at a (.inRegion ops (i :: rest) :: k)) cs w) (lone (b.at a' (.inRegion ops rest :: k)) cs w')
/-- The operations of a list come up, one behind the other. -/
def OpsTo (P : Program) (ops : Array Oper) (Q : Exit → Act → World → Prop) (l : List Nat) (a : Act) (w : World) : Prop :=
  ∀ (b : Frame) (k : List Item) (cs : List Frame), ∃ e a' w', Q e a' w' ∧ Arrives P (lone (b.at a (.inRegion ops l :: k)) cs w) b k cs e a' w'

section
variable {P : Program} {ops : Array Oper} {Q : Exit → Act → World → Prop} {md : Region.Mode} {a : Act} {w : World} {i : Nat} {o : Oper} {K : Act → World → Prop}

theorem OpTo.mono {K' : Act → World → Prop} (h : OpTo P ops i K a w) (hk : ∀ a w, K a w → K' a w) : OpTo P ops i K' a w := by
  obtain ⟨a', w', h1, h2⟩ := h
  exact ⟨a', w', hk _ _ h1, h2⟩
theorem OpsTo.nil (h : Q .normal a w) : OpsTo P ops Q [] a w := fun _ _ _ => ⟨.normal, a, w, h, .one step_region_end⟩
theorem OpsTo.cons {rest : List Nat} (h : OpTo P ops i (OpsTo P ops Q rest) a w) : OpsTo P ops Q (i :: rest) a w := fun b k cs => by
  obtain ⟨a', w', h1, h2⟩ := h
  obtain ⟨e, a2, w2, h3, h4⟩ := h1 b k cs
  exact ⟨e, a2, w2, h3, .of_steps (h2 b k cs rest) h4⟩
theorem region_to {id : Nat} (h : OpsTo P ops Q (List.range ops.size) a w) : (Code.region id ops false).wp P Q a w := fun b k cs => by
  obtain ⟨e, a', w', h1, h2⟩ := h b k cs
  exact ⟨e, a', w', h1, .of_steps (.one step_region) h2⟩
theorem draw_to {id : Nat} (h : ∀ t, OpsTo P ops Q (Region.schedule (P.follows .mixedOrders) ops t) a { w with drawn := w.drawn + 1 }) : (Code.region id ops true).wp P Q a w := fun b k cs => by
  obtain ⟨e, a', w', h1, h2⟩ := h (w.tape w.drawn (.order b.fn id)) b k cs
  exact ⟨e, a', w', h1, .of_steps (.one step_region_draw) h2⟩

/-- Whatever order is picked from here on. -/
def AnyTo (P : Program) (md : Region.Mode) (ops : Array Oper) (Q : Exit → Act → World → Prop) : Nat → Array Bool → Act → World → Prop
  | 0, listed, a, w => Region.ready md ops listed = [] ∧ Q .normal a w
  | n + 1, listed, a, w => (Region.ready md ops listed = [] → Q .normal a w) ∧ ∀ i ∈ Region.ready md ops listed, OpTo P ops i (AnyTo P md ops Q n (listed.setIfInBounds i true)) a w
theorem AnyTo.all {rs : List Nat} {n : Nat} {listed : Array Bool} (hr : Region.ready md ops listed = rs) (hne : rs ≠ []) (h : ∀ i ∈ rs, OpTo P ops i (AnyTo P md ops Q n (listed.setIfInBounds i true)) a w) : AnyTo P md ops Q (n + 1) listed a w :=
  ⟨fun e => absurd (hr.symm.trans e) hne, fun i hi => h i (hr ▸ hi)⟩
theorem AnyTo.last {listed : Array Bool} (hr : Region.ready md ops listed = []) (h : Q .normal a w) : AnyTo P md ops Q 0 listed a w := ⟨hr, h⟩
theorem AnyTo.sound : ∀ (n t : Nat) (listed : Array Bool) (a : Act) (w : World), AnyTo P md ops Q n listed a w → OpsTo P ops Q (Region.linearise.go md ops n t listed []) a w
  | 0, t, listed, a, w, h => by
    have : Region.linearise.go md ops 0 t listed [] = [] := by simp [Region.linearise.go]
    rw [this]
    exact .nil h.2
  | n + 1, t, listed, a, w, h => by
    obtain ⟨h0, h1⟩ := h
    cases hi : (Region.ready md ops listed)[t % (Region.ready md ops listed).length]? with
    | none =>
      have hnil : Region.ready md ops listed = [] := by
        rcases Nat.eq_zero_or_pos (Region.ready md ops listed).length with hl | hl
        · exact List.length_eq_zero_iff.1 hl
        · exact absurd (List.getElem?_eq_none_iff.1 hi) (Nat.not_le.2 (Nat.mod_lt _ hl))
      have e : Region.linearise.go md ops (n + 1) t listed [] = [] := by
        simp only [Region.linearise.go]
        change (match (Region.ready md ops listed)[t % (Region.ready md ops listed).length]? with
          | some i => Region.linearise.go md ops n (t / (Region.ready md ops listed).length) (listed.setIfInBounds i true) [i]
          | none => [].reverse) = []
        rw [hi]; rfl
      rw [e]
      exact .nil (h0 hnil)
    | some i =>
      have e : Region.linearise.go md ops (n + 1) t listed [] = i :: Region.linearise.go md ops n (t / (Region.ready md ops listed).length) (listed.setIfInBounds i true) [] := by
        simp only [Region.linearise.go]
        change (match (Region.ready md ops listed)[t % (Region.ready md ops listed).length]? with
          | some i => Region.linearise.go md ops n (t / (Region.ready md ops listed).length) (listed.setIfInBounds i true) [i]
          | none => [].reverse) = _
        rw [hi]
        simp only []
        rw [linearise_go_acc]; rfl
      rw [e]
      exact .cons ((h1 i (List.mem_of_getElem? hi)).mono fun a w => AnyTo.sound n _ _ a w)
theorem region_any {id : Nat} (hm : P.follows .mixedOrders = true) (h : AnyTo P .any ops Q ops.size (Array.replicate ops.size false) a { w with drawn := w.drawn + 1 }) : (Code.region id ops true).wp P Q a w :=
  draw_to fun t => by
    simp only [Region.schedule, hm, Bool.true_or, if_true]
    exact AnyTo.sound ops.size t _ a _ h

/-! ### One operation -/
theorem finish_op (b : Frame) (k : List Item) (rest : List Nat) (ho : ops[i]? = some o) (v : Value) : (b.at a (.inRegion ops (i :: rest) :: k)).finish v = b.at (a.put o.dst v) (.inRegion ops rest :: k) := by
  rw [Frame.finish_at, ho]; rfl
theorem op_value (ho : ops[i]? = some o) (hw : Region.wanted o (yielded ops a.tmps) = true) {v : Value} {w' : World} (hr : (execOp a.eval o).run P w = .ok (.value v) w') (hK : K (a.put o.dst v) w') : OpTo P ops i K a w :=
  ⟨_, _, hK, fun b k cs rest => .one (step_lone_go (by rw [stepG_op ho hw, ← finish_op b k rest ho]; simp [stepG.apply, hr]))⟩
theorem op_skip (ho : ops[i]? = some o) (hw : Region.wanted o (yielded ops a.tmps) = true) {w' : World} (hr : (execOp a.eval o).run P w = .ok .skip w') (hK : K (a.put o.dst undef) w') : OpTo P ops i K a w :=
  ⟨_, _, hK, fun b k cs rest => .one (step_lone_go (by rw [stepG_op ho hw, ← finish_op b k rest ho]; simp [stepG.apply, hr]))⟩
theorem op_comm {cases : Array CommCase} {blocking : Bool} {shape : CommShape} {w' : World} (ho : ops[i]? = some o) (hw : Region.wanted o (yielded ops a.tmps) = true) (hr : (execOp a.eval o).run P w = .ok (.comm cases blocking shape) w') (b : Frame) (k : List Item) (cs : List Frame) (rest : List Nat) :
    ∃ es, stepG P true (G (b.at a (.inRegion ops (i :: rest) :: k)) cs) w = .comm (G (b.at a (.inRegion ops (i :: rest) :: k)) cs) cases blocking shape w' es := by
  rw [stepG_oper ho hw]
  by_cases hk : b.kind = .early
  · exact ⟨_, by simp [stepG.apply, hr, G, Frame.at, hk, GStep.after]; rfl⟩
  · have hk' : (b.kind == CallKind.early) = false := by simpa using hk
    exact ⟨_, by simp [stepG.apply, hr, G, Frame.at, hk', GStep.after]; rfl⟩
variable {c cap s r : Nat} {buf : Array Value} {z v : Value} {tm closed : Bool}
theorem op_send (ho : ops[i]? = some o) (hw : Region.wanted o (yielded ops a.tmps) = true) (hr : (execOp a.eval o).run P w = .ok (.comm #[scase c v z] true .send) w) (hc : w.heap[c]? = some (.chan cap buf false s r tm)) (hroom : buf.size < cap)
    (hK : K (a.put o.dst undef) (w.setChan c cap (buf.push v) false (s + 1) r tm)) : OpTo P ops i K a w :=
  ⟨_, _, hK, fun b k cs rest => by
    obtain ⟨es, h⟩ := op_comm ho hw hr b k cs rest
    have := step_lone_send_room h hc hroom
    rw [finish_op b k rest ho] at this
    exact .one this⟩
theorem op_recv (ho : ops[i]? = some o) (hw : Region.wanted o (yielded ops a.tmps) = true) (hr : (execOp a.eval o).run P w = .ok (.comm #[rcase c z] true (.recv false)) w) (hc : w.heap[c]? = some (.chan cap buf closed s r tm)) (hsome : 0 < buf.size)
    (hK : K (a.put o.dst (buf.getD 0 undef)) (w.setChan c cap (buf.extract 1 buf.size) closed s (r + 1) tm)) : OpTo P ops i K a w :=
  ⟨_, _, hK, fun b k cs rest => by
    obtain ⟨es, h⟩ := op_comm ho hw hr b k cs rest
    have := step_lone_recv_buf false h hc hsome
    rw [finish_op b k rest ho] at this
    exact .one this⟩
theorem op_sel_got (ho : ops[i]? = some o) (hw : Region.wanted o (yielded ops a.tmps) = true) (hr : (execOp a.eval o).run P w = .ok (.comm #[rcase c z] false .select) w) (hc : w.heap[c]? = some (.chan cap buf closed s r tm)) (hsome : 0 < buf.size)
    (hK : K (a.put o.dst (.tuple #[goInt 0, .bool true, buf.getD 0 undef])) (w.setChan c cap (buf.extract 1 buf.size) closed s (r + 1) tm)) : OpTo P ops i K a w :=
  ⟨_, _, hK, fun b k cs rest => by
    obtain ⟨es, h⟩ := op_comm ho hw hr b k cs rest
    have := step_lone_select_recv_buf h hc hsome
    rw [finish_op b k rest ho] at this
    exact .one this⟩
theorem op_sel_none (ho : ops[i]? = some o) (hw : Region.wanted o (yielded ops a.tmps) = true) (hr : (execOp a.eval o).run P w = .ok (.comm #[rcase c z] false .select) w) (hc : w.heap[c]? = some (.chan cap #[] false s r tm))
    (hK : K (a.put o.dst (.tuple #[goInt (-1), .bool false, z])) w) : OpTo P ops i K a w :=
  ⟨_, _, hK, fun b k cs rest => by
    obtain ⟨es, h⟩ := op_comm ho hw hr b k cs rest
    have := step_lone_select_default h hc
    rw [finish_op b k rest ho] at this
    exact .one this⟩
theorem op_sel_sent (ho : ops[i]? = some o) (hw : Region.wanted o (yielded ops a.tmps) = true) (hr : (execOp a.eval o).run P w = .ok (.comm #[scase c v z] false .select) w) (hc : w.heap[c]? = some (.chan cap buf false s r tm)) (hroom : buf.size < cap)
    (hK : K (a.put o.dst (.tuple #[goInt 0, .bool false])) (w.setChan c cap (buf.push v) false (s + 1) r tm)) : OpTo P ops i K a w :=
  ⟨_, _, hK, fun b k cs rest => by
    obtain ⟨es, h⟩ := op_comm ho hw hr b k cs rest
    have := step_lone_select_send_room h hc hroom
    rw [finish_op b k rest ho] at this
    exact .one this⟩
theorem op_sel_full (ho : ops[i]? = some o) (hw : Region.wanted o (yielded ops a.tmps) = true) (hr : (execOp a.eval o).run P w = .ok (.comm #[scase c v z] false .select) w) (hc : w.heap[c]? = some (.chan cap buf false s r tm)) (hfull : cap ≤ buf.size)
    (hK : K (a.put o.dst (.tuple #[goInt (-1), .bool false])) w) : OpTo P ops i K a w :=
  ⟨_, _, hK, fun b k cs rest => by
    obtain ⟨es, h⟩ := op_comm ho hw hr b k cs rest
    have := step_lone_select_send_full h hc hfull
    rw [finish_op b k rest ho] at this
    exact .one this⟩
end
end Go.Proofs.Ytknldabnkaecdaa.pip

/- A disk in memory: what it is, and what leaves it one. -/
import Derived.Test.YtbnnbaoimidfnaaDkE
namespace Go.Proofs.Ytbnnbaoimidfnaa.dsk
set_option linter.unusedSimpArgs false
set_option linter.unusedVariables false
open Go.RowKit

/-- A disk's cells. -/
def cellsD (room : Nat) (off : Bool) (left : Int) (vs us : Nat → Value) (lo : Value) : Nat → Value := fun j =>
  if j = 0 then .int .i64 room else if j = 1 then .bool off else if j = 2 then .int .i64 left else if j < 19 then vs (j - 3) else if j < 35 then us (j - 19) else lo
theorem cellsD_now {room : Nat} {off : Bool} {left : Int} {vs us : Nat → Value} {lo : Value} (i : Nat) (hi : i < 16) : cellsD room off left vs us lo (3 + i) = vs i := by
  unfold cellsD; rw [if_neg (by omega), if_neg (by omega), if_neg (by omega), if_pos (by omega)]; congr 1; omega
theorem cellsD_sure {room : Nat} {off : Bool} {left : Int} {vs us : Nat → Value} {lo : Value} (i : Nat) (hi : i < 16) : cellsD room off left vs us lo (19 + i) = us i := by
  unfold cellsD; rw [if_neg (by omega), if_neg (by omega), if_neg (by omega), if_neg (by omega), if_pos (by omega)]; congr 1; omega
theorem cellsD_loose {room : Nat} {off : Bool} {left : Int} {vs us : Nat → Value} {lo : Value} : cellsD room off left vs us lo 35 = lo := by
  unfold cellsD; simp

def pairs (ps : List (Value × Value)) : List Value := ps.flatMap fun p => [p.1, p.2]
theorem pairs_append (ps qs : List (Value × Value)) : pairs (ps ++ qs) = pairs ps ++ pairs qs := List.flatMap_append
theorem pairs_length (ps : List (Value × Value)) : (pairs ps).length = ps.length * 2 := by
  induction ps with
  | nil => rfl
  | cons p ps ih => show ([p.1, p.2] ++ pairs ps).length = _; simp only [List.length_append, ih, List.length_cons, List.length_nil]; omega
theorem pairs_get (ps : List (Value × Value)) (k : Nat) (p : Value × Value) (h : ps[k]? = some p) : (pairs ps)[k * 2]? = some p.1 ∧ (pairs ps)[k * 2 + 1]? = some p.2 := by
  induction ps generalizing k with
  | nil => simp at h
  | cons q ps ih =>
    cases k with
    | zero =>
      simp at h; subst h
      exact ⟨rfl, rfl⟩
    | succ k =>
      have := ih k (by simpa using h)
      have e : pairs (q :: ps) = q.1 :: q.2 :: pairs ps := rfl
      rw [e, show (k + 1) * 2 = k * 2 + 1 + 1 from by omega]
      simpa using this

theorem own_frame {w w' : World} {base e size n : Nat} {v : Value} {xs : List Value} (h : w.ownsRow base e size v n xs) (hf : ∀ g, v.ownBlock = some g → w'.heap[g]? = w.heap[g]?) : w'.ownsRow base e size v n xs := by
  obtain ⟨h1, h2⟩ := h
  refine ⟨h1, ?_⟩
  rcases h2 with h2 | ⟨g, cap, cur, rfl, hg, hh, r⟩
  · exact .inl h2
  · exact .inr ⟨g, cap, cur, rfl, hg, (hf g rfl).trans hh, r⟩
theorem own_kind {w : World} {base e size n : Nat} {v : Value} {xs : List Value} (h : w.ownsRow base e size v n xs) {g : Nat} (hg : v.ownBlock = some g) : ∃ cur, w.heap[g]? = some (.cells cur e (0, 0)) := by
  rcases h.2 with ⟨rfl, _⟩ | ⟨g', cap, cur, rfl, _, hh, _⟩
  · simp [Value.ownBlock] at hg
  · simp [Value.ownBlock] at hg; subst hg; exact ⟨cur, hh⟩
theorem kind_ne {w : World} {k k' : Nat} {C C' : Array Value} {T T' : TypeId} {f f' : Nat × Nat} (h : w.heap[k]? = some (.cells C T f)) (h' : w.heap[k']? = some (.cells C' T' f')) (hT : T ≠ T') : k ≠ k' := by
  rintro rfl
  rw [h] at h'
  simp only [Option.some.injEq, Obj.cells.injEq] at h'
  exact hT h'.2.1

/-- What belongs to a disk beside its own block. -/
structure Rest (w : World) (F : Nat → Prop) (x : D) (f : Files) (vs us : Nat → Value) (lo : Value) (ps : List (Value × Value)) : Prop where
  now : Fls w vs f
  sure : Fls w us x.sure
  crs : Crs vs us
  loose : w.ownsRow 0 69 2 lo x.loose.length (pairs ps)
  num : ps.length = x.loose.length
  chg : ∀ (k : Nat) (c : Chg) (p : Value × Value), x.loose[k]? = some c → ps[k]? = some p → IsChg w F c p.1 p.2
  fv : ∀ i, i < 16 → ∀ g, (vs i).ownBlock = some g → F g
  fu : ∀ i, i < 16 → ∀ g, (us i).ownBlock = some g → F g
  fl : ∀ g, lo.ownBlock = some g → F g
  lt : ∀ k, F k → k < w.heap.size
section
variable {w w' : World} {F G : Nat → Prop} {x : D} {f : Files} {vs us : Nat → Value} {lo : Value} {ps : List (Value × Value)}
theorem Rest.frame (h : Rest w F x f vs us lo ps) (hf : ∀ k, F k → w'.heap[k]? = w.heap[k]?) (hs : w.heap.size ≤ w'.heap.size) : Rest w' F x f vs us lo ps :=
  ⟨h.now.frame fun i hi g hg => hf g (h.fv i hi g hg), h.sure.frame fun i hi g hg => hf g (h.fu i hi g hg), h.crs, own_frame h.loose fun g hg => hf g (h.fl g hg), h.num,
   fun k c p h1 h2 => (h.chg k c p h1 h2).frame (fun b T v hb _ hx => (hf b hb).trans hx) fun _ h => h, h.fv, h.fu, h.fl, fun k hk => Nat.lt_of_lt_of_le (h.lt k hk) hs⟩
theorem Rest.mono (h : Rest w F x f vs us lo ps) (hG : ∀ k, F k → G k) (hl : ∀ k, G k → k < w.heap.size) : Rest w G x f vs us lo ps :=
  ⟨h.now, h.sure, h.crs, h.loose, h.num, fun k c p h1 h2 => (h.chg k c p h1 h2).frame (fun _ _ _ _ _ h => h) hG, fun i hi g hg => hG g (h.fv i hi g hg), fun i hi g hg => hG g (h.fu i hi g hg), fun g hg => hG g (h.fl g hg), hl⟩
theorem Rest.setCell (h : Rest w F x f vs us lo ps) {d o n : Nat} {R : Nat → Value} (hr : w.rowIs d 49 n R) (v : Value) : Rest (w.setCell ⟨d, o, none⟩ v) F x f vs us lo ps := by
  obtain ⟨c, hd, hc⟩ := id hr
  refine ⟨h.now.setCell hr (by decide) v, h.sure.setCell hr (by decide) v, h.crs, own_frame h.loose fun g hg => heap_setCell_other w _ g v ?_, h.num, fun k c' p h1 h2 => (h.chg k c' p h1 h2).frame (fun b T u _ hT hx => (heap_setCell_other w _ b v ?_).trans hx) fun _ h => h, h.fv, h.fu, h.fl, by simpa using h.lt⟩
  · obtain ⟨cur, hg'⟩ := own_kind h.loose hg
    exact kind_ne hg' hd (by decide)
  · exact kind_ne hx hd (by rcases hT with rfl | rfl | rfl <;> decide)
/-- The blocks that were there, and the new ones. -/
def Grow (F : Nat → Prop) (w w' : World) : Nat → Prop := fun k => F k ∨ (w.heap.size ≤ k ∧ k < w'.heap.size)
theorem Did.other {b o n : Nat} {T T' : TypeId} {R vs' : Nat → Value} {f' : Files} (hd : Did w w' b o n T R vs vs' f') (hf : Fls w vs f) (hr : w.rowIs b T n R) {k : Nat} {C : Array Value} {fr : Nat × Nat} (hk : w.heap[k]? = some (.cells C T' fr)) (h5 : T' ≠ 5) (hT : T' ≠ T) : w'.heap[k]? = w.heap[k]? := by
  obtain ⟨c, hb, _⟩ := hr
  refine hd.block k (Array.getElem?_eq_some_iff.1 hk).1 (kind_ne hk hb hT) fun i hi e => ?_
  obtain ⟨cur, hc⟩ := (hf.has i hi).kind e
  exact absurd rfl (kind_ne hk hc h5)
theorem Rest.did (h : Rest w F x f vs us lo ps) {d o n : Nat} {T : TypeId} {R vs' : Nat → Value} {f' : Files} (hr : w.rowIs d T n R) (h70 : (69 : TypeId) ≠ T) (hb : ∀ T', boxT T' → T' ≠ T) (hd : Did w w' d o n T R vs vs' f') : Rest w' (Grow F w w') x f' vs' us lo ps := by
  have hk := hd.keeps us x.sure h.sure h.crs
  refine ⟨hd.fls, hk.1, hk.2, own_frame h.loose fun g hg => ?_, h.num, fun k c p h1 h2 => (h.chg k c p h1 h2).frame (fun b T' u _ hT hx => (hd.other h.now hr hx ?_ (hb T' hT)).trans hx) fun _ h => .inl h, fun i hi g hg => ?_, fun i hi g hg => .inl (h.fu i hi g hg), fun g hg => .inl (h.fl g hg), fun k hk => ?_⟩
  · obtain ⟨cur, hg'⟩ := own_kind h.loose hg
    exact hd.other h.now hr hg' (by decide) h70
  · rcases hT with rfl | rfl | rfl <;> decide
  · rcases hd.own i hi g hg with ⟨j, hj, h1⟩ | h1
    · exact .inl (h.fv j hj g h1)
    · exact .inr ⟨h1, (hd.fls.has i hi).lt hg⟩
  · rcases hk with h1 | h1
    · exact Nat.lt_of_lt_of_le (h.lt k h1) hd.size
    · exact h1.2
theorem Did.only {b o n : Nat} {T : TypeId} {R vs' : Nat → Value} {f' : Files} (hd : Did w w' b o n T R vs vs' f') (hb : F b) (hv : ∀ i, i < 16 → ∀ g, (vs i).ownBlock = some g → F g) : Only F w w' :=
  ⟨hd.os, hd.tape, hd.output, hd.size, fun k hk hn => hd.block k hk (fun e => hn (e ▸ hb)) fun i hi e => hn (hv i hi k e)⟩
/-- A change stands behind the loose ones. -/
theorem Rest.push (h : Rest w F x f vs us lo ps) {c : Chg} {v1 v2 lo' : Value} {H : Nat} (hc : IsChg w F c v1 v2) (hH : w.heap.size = H) (ho : w'.ownsRow 0 69 2 lo' (x.loose.length + 1) (pairs ps ++ [v1, v2])) (hg : w.grownBy w' lo.ownBlock)
    (hl : ∀ g, lo'.ownBlock = some g → (lo.ownBlock = some g ∨ g = H) ∧ g < w'.heap.size) : Rest w' (Grow F w w') { x with loose := x.loose ++ [c] } f vs us lo' (ps ++ [(v1, v2)]) := by
  have hoth : ∀ (k : Nat) (C : Array Value) (T : TypeId) (fr : Nat × Nat), w.heap[k]? = some (.cells C T fr) → T ≠ 69 → w'.heap[k]? = w.heap[k]? := fun k C T fr hk hT => hg.block k (Array.getElem?_eq_some_iff.1 hk).1 fun e => by
    obtain ⟨cur, hg'⟩ := own_kind h.loose e.symm
    exact absurd rfl (kind_ne hk hg' hT)
  have hbox : ∀ (b : Nat) (T : TypeId) (v : Value), F b → boxT T → Box w b T v → Box w' b T v := fun b T v _ hT hx => (hoth b _ T _ hx (by rcases hT with rfl | rfl | rfl <;> decide)).trans hx
  refine ⟨h.now.frame fun i hi g hg => ?_, h.sure.frame fun i hi g hg => ?_, h.crs, ?_, ?_, fun k c' p h1 h2 => ?_, fun i hi g hg => .inl (h.fv i hi g hg), fun i hi g hg => .inl (h.fu i hi g hg), fun g hg => ?_, fun k hk => ?_⟩
  · obtain ⟨cur, hc'⟩ := (h.now.has i hi).kind hg
    exact hoth g _ _ _ hc' (by decide)
  · obtain ⟨cur, hc'⟩ := (h.sure.has i hi).kind hg
    exact hoth g _ _ _ hc' (by decide)
  · show w'.ownsRow 0 69 2 lo' (x.loose ++ [c]).length (pairs (ps ++ [(v1, v2)]))
    rw [pairs_append, List.length_append]; exact ho
  · show (ps ++ [(v1, v2)]).length = (x.loose ++ [c]).length
    rw [List.length_append, List.length_append, h.num]; rfl
  · have hn := h.num
    rcases Nat.lt_or_ge k x.loose.length with hlt | hge
    · rw [List.getElem?_append_left (by omega)] at h2
      have h1' : x.loose[k]? = some c' := by
        have : (x.loose ++ [c])[k]? = some c' := h1
        rwa [List.getElem?_append_left hlt] at this
      exact (h.chg k c' p h1' h2).frame hbox fun _ h => .inl h
    · have h1' : (x.loose ++ [c])[k]? = some c' := h1
      rw [List.getElem?_append_right hge] at h1'
      rw [List.getElem?_append_right (by omega)] at h2
      obtain rfl : k = x.loose.length := by
        have := (List.getElem?_eq_some_iff.1 h1').1; simp at this; omega
      rw [Nat.sub_self] at h1'
      rw [show x.loose.length - ps.length = 0 from by omega] at h2
      simp at h1' h2
      subst h1'; subst h2
      exact hc.frame hbox fun _ h => .inl h
  · obtain ⟨h1, h2⟩ := hl g hg
    rcases h1 with h1 | h1
    · exact .inl (h.fl g h1)
    · exact .inr ⟨by omega, h2⟩
  · rcases hk with h1 | h1
    · exact Nat.lt_of_lt_of_le (h.lt k h1) hg.size
    · exact h1.2

/-- d is a disk. All that it hangs on lies in F. -/
def IsDisk (w : World) (F : Nat → Prop) (d : Nat) (x : D) : Prop :=
  ∃ vs us lo ps, w.rowIs d 49 36 (cellsD x.room x.off x.left vs us lo) ∧ Rest w F x x.now vs us lo ps ∧ x.Ok ∧ F d
theorem IsDisk.frame {d : Nat} (h : IsDisk w F d x) (hf : ∀ k, F k → w'.heap[k]? = w.heap[k]?) (hs : w.heap.size ≤ w'.heap.size) : IsDisk w' F d x := by
  obtain ⟨vs, us, lo, ps, hr, hR, ho, hd⟩ := h
  exact ⟨vs, us, lo, ps, hr.of_block (hf d hd), hR.frame hf hs, ho, hd⟩
theorem IsDisk.mono {d : Nat} (h : IsDisk w F d x) (hG : ∀ k, F k → G k) (hl : ∀ k, G k → k < w.heap.size) : IsDisk w G d x := by
  obtain ⟨vs, us, lo, ps, hr, hR, ho, hd⟩ := h
  exact ⟨vs, us, lo, ps, hr, hR.mono hG hl, ho, hG d hd⟩
theorem IsDisk.lt {d : Nat} (h : IsDisk w F d x) {k : Nat} (hk : F k) : k < w.heap.size := by
  obtain ⟨vs, us, lo, ps, hr, hR, ho, hd⟩ := h
  exact hR.lt k hk
theorem IsDisk.below {d : Nat} (h : IsDisk w F d x) (hb : Below w.heap.size w w') : IsDisk w' F d x := h.frame (fun k hk => hb.block k (h.lt hk)) hb.size
theorem IsDisk.other {d : Nat} (h : IsDisk w F d x) (ho : Only G w w') (hn : ∀ k, F k → ¬ G k) : IsDisk w' F d x := h.frame (fun k hk => ho.block k (h.lt hk) (hn k hk)) ho.size
theorem IsDisk.ok {d : Nat} (h : IsDisk w F d x) : x.Ok := by
  obtain ⟨vs, us, lo, ps, hr, hR, ho, hd⟩ := h
  exact ho
/-- The call has made the disk x', and has turned what was F's alone. -/
structure Post (F : Nat → Prop) (d : Nat) (x' : D) (w w' : World) : Prop where
  disk : IsDisk w' (Grow F w w') d x'
  only : Only F w w'
end
end Go.Proofs.Ytbnnbaoimidfnaa.dsk

/- A map from numbers to numbers that is a law's own: what Put put last of each key. -/
import Derived.Test.YtghpbhcnblninaaTbV
namespace Go.Proofs.Ytghpbhcnblninaa.tbl
set_option linter.unusedSimpArgs false
set_option linter.unusedVariables false
open Go.RowKit
open Go.Proofs.Ytghpbhcnblninaa.grp (gof gof_in fits fits_wf IRow intV below_on' below_made ret_bool own_below)
def RI (v : Value) : Option (DataW Value × List MemPlace) := match v with | .int .i64 _ => some (.held v, []) | _ => none
theorem RI_mk (x : Int) : RI (.int .i64 x) = some (.held (.int .i64 x), []) := rfl
theorem RI_inv {v : Value} {y : DataW Value × List MemPlace} (h : RI v = some y) : ∃ x, v = .int .i64 x ∧ y = (.held (.int .i64 x), []) := by
  unfold RI at h
  split at h
  · exact ⟨_, rfl, (Option.some.inj h).symm⟩
  · cases h
/-- What the map has of a key. -/
def AccAt (D : DataW Value) (L : Rows) (k : Int) : Prop :=
  match look L k with
  | none => Maps.has D (kl k) = false
  | some c => Maps.has D (kl k) = true ∧ ∀ z, D.atKey (kl k) z = .held (.int .i64 c.1)
def AccM (w : World) (b : Nat) (L : Rows) : Prop :=
  ∃ D, w.ownsMap Try.prog 2 RI b L.length D ∧ Maps.size D = L.length ∧ ∀ k, fits k → AccAt D L k
theorem AccM.isMap {w : World} {b : Nat} {L : Rows} (h : AccM w b L) : ∃ es clock, w.heap[b]? = some (.map es clock) := by
  obtain ⟨D, ⟨es, clock, hb, _⟩, _⟩ := h
  exact ⟨es, clock, hb⟩
theorem AccM.keep {w w' : World} {b : Nat} {L : Rows} (h : AccM w b L) (hb : w'.heap[b]? = w.heap[b]?) : AccM w' b L := by
  obtain ⟨D, ⟨es, clock, h1, h2⟩, h3, h4⟩ := h
  exact ⟨D, ⟨es, clock, hb.trans h1, h2⟩, h3, h4⟩
theorem AccM.lt {w : World} {b : Nat} {L : Rows} (h : AccM w b L) : b < w.heap.size := by obtain ⟨_, _, h1⟩ := h.isMap; exact lt_of_get h1
theorem AccM.below {w w' : World} {b : Nat} {L : Rows} (h : AccM w b L) (hb : Below w.heap.size w w') : AccM w' b L := h.keep (hb.block b h.lt)
theorem AccM.only {w w' : World} {t b m : Nat} {L U : Rows} (h : AccM w m U) (ht : IsTab w t b L) (hm : m ≠ b) (ho : Only (Two t b) w w') : AccM w' m U := by
  obtain ⟨es, ck, h1⟩ := h.isMap
  refine h.keep (ho.block m h.lt (fun e => ?_))
  rcases e with e | e
  · have := ht.obj; unfold TabO at this; rw [← e, h1] at this; cases this
  · exact hm e
theorem zeroI (w : World) : (zeroValue 2).run Try.prog w = .ok (.int .i64 0) w := by kernel_rfl
theorem AccM.look_yes {w : World} {b : Nat} {L : Rows} (h : AccM w b L) {k : Int} (hk : fits k) {c : Cl} (hc : look L k = some c) :
    (Instr.lookup 62 (.map (some b)) (.int .i64 k) true).run Try.prog w = .ok (.tuple #[.int .i64 c.1, .bool true]) w := by
  obtain ⟨D, ho, hs, hD⟩ := h
  have := hD k hk
  unfold AccAt at this
  rw [hc] at this
  obtain ⟨h2, h3⟩ := this
  obtain ⟨v, ps, hr, hv⟩ := ho.look_ok key64 Try.underlying62 (zeroI w) (RI_mk _) (key_of hk)
  rw [h3] at hv
  obtain ⟨c1, rfl, e1⟩ := RI_inv hv
  simp only [Prod.mk.injEq, DataW.held.injEq] at e1
  rw [h2, ← e1.1] at hr
  exact hr
theorem AccM.look_no {w : World} {b : Nat} {L : Rows} (h : AccM w b L) {k : Int} (hk : fits k) (hc : look L k = none) :
    (Instr.lookup 62 (.map (some b)) (.int .i64 k) true).run Try.prog w = .ok (.tuple #[.int .i64 0, .bool false]) w := by
  obtain ⟨D, ho, hs, hD⟩ := h
  have := hD k hk
  unfold AccAt at this
  rw [hc] at this
  obtain ⟨v, ps, hr, hv⟩ := ho.look_ok key64 Try.underlying62 (zeroI w) (RI_mk _) (key_of hk)
  rw [Maps.atKey_of_not_has this] at hv
  obtain ⟨c1, rfl, e1⟩ := RI_inv hv
  simp only [Prod.mk.injEq, DataW.held.injEq] at e1
  rw [this, ← e1.1] at hr
  exact hr
theorem acc_tight {w : World} {b n : Nat} {D : DataW Value} (h : w.ownsMap Try.prog 2 RI b n D) : w.ownsMap Try.prog 2 RI b (Maps.size D) D := by
  obtain ⟨es, clock, hb, F, hs, rfl⟩ := h
  exact ⟨es, clock, hb, F, by simp [Maps.size, length_sorted], rfl⟩
theorem acc_look {D : DataW Value} {L : Rows} {k : Int} (h : AccAt D L k) : Maps.has D (kl k) = (look L k).isSome := by
  unfold AccAt at h
  split at h
  · rename_i hk; rw [h, hk]; rfl
  · rename_i c hk; rw [h.1, hk]; rfl
theorem AccM.len {w : World} {b : Nat} {L : Rows} (h : AccM w b L) (ty : TypeId) : (Builtin.len_ #[62] ty #[.map (some b)]).run Try.prog w = .ok (.int .i64 L.length) w := by
  obtain ⟨D, ho, hs, hD⟩ := h
  have := ho.len Try.underlying62 ty
  rw [hs] at this
  exact this
theorem AccM.store {w : World} {b : Nat} {L : Rows} (h : AccM w b L) (hL : Good L) {k : Int} (hk : fits k) (c : Cl) :
    ∃ w', (Instr.mapUpdate 62 (.map (some b)) (.int .i64 k) (.int .i64 c.1)).run Try.prog w = .ok () w' ∧ AccM w' b (putL L k c) ∧ w.grownBy w' (some b) := by
  obtain ⟨D, ho, hs, hD⟩ := h
  obtain ⟨w', hr, h1, h2⟩ := ho.update key64 Try.underlying62 (by have := hL.len; unfold maxLen; omega) (key_of hk) (RI_mk c.1)
  have hsz : Maps.size (D.put (kl k) (.held (.int .i64 c.1))) = (putL L k c).length := by
    rw [Maps.size_put (ho.tidy key64), acc_look (hD k hk), len_put hL.ord, hs]
    cases look L k <;> rfl
  refine ⟨w', hr, ⟨_, by rw [← hsz]; exact acc_tight h1, hsz, fun x hx => ?_⟩, h2⟩
  unfold AccAt
  rw [look_put]
  by_cases hkx : k = x
  · subst hkx
    rw [if_pos rfl]
    exact ⟨Maps.has_put_same ho.isMap (key_is k) _, fun z => Maps.atKey_put_same ho.isMap (key_is k) _ z⟩
  · rw [if_neg hkx]
    have := hD x hx
    unfold AccAt at this
    split
    · rename_i hl; rw [hl] at this; rw [Maps.has_put_other (kl_ne (Ne.symm hkx))]; exact this
    · rename_i c' hl
      rw [hl] at this
      obtain ⟨h4, h5⟩ := this
      exact ⟨by rw [Maps.has_put_other (kl_ne (Ne.symm hkx))]; exact h4, fun z => by rw [Maps.atKey_put_other (kl_ne (Ne.symm hkx))]; exact h5 z⟩
theorem AccM.drop {w : World} {b : Nat} {L : Rows} (h : AccM w b L) (hL : Good L) {k : Int} (hk : fits k) (ty : TypeId) :
    ∃ w', (Builtin.delete_ #[62, 2] ty #[.map (some b), .int .i64 k]).run Try.prog w = .ok (.tuple #[]) w' ∧ AccM w' b (delL L k) ∧ w.grownBy w' (some b) ∧ w'.heap.size = w.heap.size := by
  obtain ⟨D, ho, hs, hD⟩ := h
  obtain ⟨w', hr, h1, h2⟩ := ho.drop key64 Try.underlying62 (key_of hk) ty
  have hsz : Maps.size (D.del (kl k)) = (delL L k).length := by
    have h3 := Maps.size_del (k := kl k) (ho.tidy key64)
    rw [acc_look (hD k hk), hs] at h3
    cases hc : look L k with
    | none => rw [hc] at h3; rw [del_none hc]; simpa using h3
    | some c => rw [hc, len_del hL.ord hc] at h3; simp at h3; omega
  refine ⟨w', hr, ⟨_, by rw [← hsz]; exact acc_tight h1, hsz, fun x hx => ?_⟩, h2.grown, by obtain ⟨_, _, _, _, _, rfl⟩ := h2; simp [ChangeMaps.setBlock]⟩
  unfold AccAt
  rw [look_del]
  by_cases hkx : k = x
  · subst hkx
    rw [if_pos rfl]
    exact Maps.has_del_same
  · rw [if_neg hkx]
    have := hD x hx
    unfold AccAt at this
    split
    · rename_i hl; rw [hl] at this; rw [Maps.has_del_other (kl_ne (Ne.symm hkx))]; exact this
    · rename_i c' hl
      rw [hl] at this
      obtain ⟨h4, h5⟩ := this
      exact ⟨by rw [Maps.has_del_other (kl_ne (Ne.symm hkx))]; exact h4, fun z => by rw [Maps.atKey_del_other (kl_ne (Ne.symm hkx))]; exact h5 z⟩
theorem AccM.made (w : World) : AccM (w.alloc (.map #[] 0)) w.heap.size [] :=
  ⟨_, World.ownsMap_made _ _ _ _, rfl, fun k hk => rfl⟩
/-- A call that is had. -/
def Box4 (w : World) (N : Nat) (k key acc : Int) (a : Option Addr) (n c : Nat) : Prop := w.heap[N]? = some (.cells #[.int .i64 k, .int .i64 key, .int .i64 acc, .slice a n c] 47 (0, 0))
theorem Box4.new (w : World) (k key acc : Int) (a : Option Addr) (n c : Nat) : Box4 (w.alloc (.cells #[.int .i64 k, .int .i64 key, .int .i64 acc, .slice a n c] 47)) w.heap.size k key acc a n c := Go.heap_alloc_new w _
theorem Box4.facts {w : World} {N : Nat} {k key acc : Int} {a : Option Addr} {n c : Nat} (h : Box4 w N k key acc a n c) :
    w.cell? ⟨N, 0, none⟩ = some (.int .i64 k) ∧ w.cell? ⟨N, 1, none⟩ = some (.int .i64 key) ∧ w.cell? ⟨N, 2, none⟩ = some (.int .i64 acc) ∧ w.cell? ⟨N, 3, none⟩ = some (.slice a n c) :=
  ⟨by rw [cell_of_row w N 0 _ _ _ h]; rfl, by rw [cell_of_row w N 1 _ _ _ h]; rfl, by rw [cell_of_row w N 2 _ _ _ h]; rfl, by rw [cell_of_row w N 3 _ _ _ h]; rfl⟩
theorem Box4.below {w w' : World} {N : Nat} {k key acc : Int} {a : Option Addr} {n c : Nat} (h : Box4 w N k key acc a n c) (hb : Below w.heap.size w w') : Box4 w' N k key acc a n c := (hb.block N (lt_of_get h)).trans h
theorem Box4.grown {w w' : World} {N m : Nat} {k key acc : Int} {a : Option Addr} {n c : Nat} (h : Box4 w N k key acc a n c) (hg : w.grownBy w' (some m)) (hm : m ≠ N) : Box4 w' N k key acc a n c := (hg.block N (lt_of_get h) (fun e => hm (Option.some.inj e).symm)).trans h
theorem Box4.only {w w' : World} {t b N : Nat} {L : Rows} {k key acc : Int} {a : Option Addr} {n c : Nat} (h : Box4 w N k key acc a n c) (ht : IsTab w t b L) (ho : Only (Two t b) w w') : Box4 w' N k key acc a n c := by
  refine (ho.block N (lt_of_get h) (fun e => ?_)).trans h
  have h0 : w.heap[N]? = _ := h
  rcases e with e | e
  · have := ht.obj; unfold TabO at this; rw [← e, h0] at this; cases this
  · obtain ⟨es, ck, h1⟩ := ht.map.isMap; rw [e, h1] at h0; cases h0
end Go.Proofs.Ytghpbhcnblninaa.tbl

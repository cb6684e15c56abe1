/- A map whose keys are addresses, or pairs of these: what is found, what a store leaves. -/
import Derived.Test.YtjmfneljgogohaaDoorRows
import Derived.WalkKit
import Derived.Maps.OwnSet
import Derived.LaidEqlPtr
import Derived.Lib.Hide
namespace Go.Proofs.YtjmfneljgogohaaDoor.exp
set_option linter.unusedSimpArgs false
set_option linter.unusedVariables false
set_option linter.unusedSectionVars false
open Go.ChangeMaps (setBlock heap_setBlock_same heap_setBlock_other modify_eq_set)
open Go.MapKept

section
variable {P : Program} {w : World} {α β : Type} [DecidableEq α] {κ : α → Value} {ν : β → Value} {G : α → Prop} {kt : TypeId}

/-- Block b is a map that has of each key what m says. -/
structure PM (κ : α → Value) (ν : β → Value) (G : α → Prop) (w : World) (b : Nat) (m : α → Option β) : Prop where
  is : ∃ es clock, w.heap[b]? = some (.map es clock) ∧ es.toList.Pairwise (fun x y => x.key ≠ y.key) ∧ (∀ e ∈ es.toList, ∃ a v, e.key = κ a ∧ e.val = ν v ∧ m a = some v ∧ G a) ∧ ∀ a v, m a = some v → ∃ e ∈ es.toList, e.key = κ a
def upd (m : α → Option β) (a : α) (v : β) : α → Option β := fun x => if x = a then some v else m x
theorem upd_same (m : α → Option β) (a : α) (v : β) : upd m a v a = some v := by simp [upd]
theorem upd_other (m : α → Option β) {a x : α} (v : β) (h : x ≠ a) : upd m a v x = m x := by simp [upd, h]

theorem run_asking (hinj : ∀ a b, κ a = κ b → a = b) (heq : ∀ a b, G a → G b → ∃ r : Bool, (Op.equal kt (κ a) (κ b)).run P w = .ok r w ∧ (r = true ↔ a = b)) {a : α} (ha : G a) :
    ∀ (es : List MapEntry) (i : Nat), (∀ e ∈ es, ∃ x, e.key = κ x ∧ G x) →
      ((Instr.findAsking kt (κ a) es i).run P w = .ok none w ∧ ∀ e ∈ es, e.key ≠ κ a) ∨
      ∃ j e, (Instr.findAsking kt (κ a) es i).run P w = .ok (some (i + j, e.val)) w ∧ es[j]? = some e ∧ e.key = κ a
  | [], i, _ => Or.inl ⟨by simp [Instr.findAsking], by simp⟩
  | e :: es, i, hall => by
    obtain ⟨x, hx, gx⟩ := hall e (by simp)
    obtain ⟨r, hr, hiff⟩ := heq a x ha gx
    rw [← hx] at hr
    cases r with
    | true => exact Or.inr ⟨0, e, by simp [Instr.findAsking, hr], rfl, by rw [hx, hiff.1 rfl]⟩
    | false =>
      have hne : e.key ≠ κ a := fun h => by
        have := hiff.2 (hinj _ _ (by rw [← hx, h]))
        cases this
      rcases run_asking hinj heq ha es (i + 1) (fun y hy => hall y (by simp [hy])) with ⟨h1, h2⟩ | ⟨j, e', h1, h2, h3⟩
      · refine Or.inl ⟨by simp [Instr.findAsking, hr, h1], fun y hy => ?_⟩
        rcases List.mem_cons.1 hy with rfl | hy
        · exact hne
        · exact h2 y hy
      · exact Or.inr ⟨j + 1, e', by simp [Instr.findAsking, hr, h1, Nat.add_assoc, Nat.add_comm 1 j], by simpa using h2, h3⟩
theorem run_findKey_of {d : TypeDesc} (hd : P.underlying kt = some d) (hnow : ∀ a v, Instr.sameNow d (κ a) v = none) (hinj : ∀ a b, κ a = κ b → a = b) (heq : ∀ a b, G a → G b → ∃ r : Bool, (Op.equal kt (κ a) (κ b)).run P w = .ok r w ∧ (r = true ↔ a = b)) {a : α} (ha : G a)
    (es : List MapEntry) (hall : ∀ e ∈ es, ∃ x, e.key = κ x ∧ G x) :
      ((Instr.findKey kt (κ a) es).run P w = .ok none w ∧ ∀ e ∈ es, e.key ≠ κ a) ∨
      ∃ j e, (Instr.findKey kt (κ a) es).run P w = .ok (some (j, e.val)) w ∧ es[j]? = some e ∧ e.key = κ a := by
  cases es with
  | nil => exact Or.inl ⟨by simp [Instr.findKey, run_underlying hd, Instr.findNow], by simp⟩
  | cons e l =>
    have hn : Instr.findNow d (κ a) (e :: l) 0 = none := by simp [Instr.findNow, hnow]
    rcases run_asking hinj heq ha (e :: l) 0 hall with ⟨h1, h2⟩ | ⟨j, e', h1, h2, h3⟩
    · exact Or.inl ⟨by simp [Instr.findKey, run_underlying hd, hn, h1], h2⟩
    · exact Or.inr ⟨j, e', by simp [Instr.findKey, run_underlying hd, hn, h1], h2, h3⟩

/-- What the laws below ask of the key's type. -/
structure KeyT (P : Program) (w : World) (κ : α → Value) (G : α → Prop) (kt : TypeId) : Prop where
  under : ∃ d, P.underlying kt = some d ∧ ∀ a v, Instr.sameNow d (κ a) v = none
  inj : ∀ a b, κ a = κ b → a = b
  eq : ∀ a b, G a → G b → ∃ r : Bool, (Op.equal kt (κ a) (κ b)).run P w = .ok r w ∧ (r = true ↔ a = b)
  check : ∀ em a, (Instr.checkKey em 10000 kt (κ a)).run P w = .ok () w
  stays : ∀ a, (Instr.keyThatStays (κ a) (κ a)).run P w = .ok (κ a) w

theorem PM.find (hk : KeyT P w κ G kt) {b : Nat} {m : α → Option β} (h : PM κ ν G w b m) {a : α} (ha : G a) : ∃ es clock, w.heap[b]? = some (.map es clock) ∧
    ((m a = none ∧ (Instr.findKey kt (κ a) es.toList).run P w = .ok none w) ∨ ∃ v j, m a = some v ∧ (Instr.findKey kt (κ a) es.toList).run P w = .ok (some (j, ν v)) w) := by
  obtain ⟨es, clock, hb, hp, he, hm⟩ := h.is
  obtain ⟨d, hd, hnow⟩ := hk.under
  refine ⟨es, clock, hb, ?_⟩
  rcases run_findKey_of hd hnow hk.inj hk.eq ha es.toList (fun e h1 => by obtain ⟨x, v, h2, _, _, h3⟩ := he e h1; exact ⟨x, h2, h3⟩) with ⟨h1, h2⟩ | ⟨j, e, h1, h2, h3⟩
  · refine .inl ⟨?_, h1⟩
    cases hma : m a with
    | none => rfl
    | some v =>
      obtain ⟨e, h4, h5⟩ := hm a v hma
      exact absurd h5 (h2 e h4)
  · obtain ⟨x, v, h4, h5, h6, _⟩ := he e (List.mem_of_getElem? h2)
    have := hk.inj _ _ (h4.symm.trans h3)
    subst this
    exact .inr ⟨v, j, h6, by rw [h1, h5]⟩
theorem PM.look (hk : KeyT P w κ G kt) {b : Nat} {m : α → Option β} (h : PM κ ν G w b m) {a : α} (ha : G a) {t e : TypeId} (ht : P.underlying t = some (.map kt e)) {z : Value} (hz : (zeroValue e).run P w = .ok z w) (ok : Bool) :
    (Instr.lookup t (.map (some b)) (κ a) ok).run P w = .ok (if ok then .tuple #[(m a).elim z ν, .bool (m a).isSome] else (m a).elim z ν) w := by
  obtain ⟨es, clock, hb, ⟨h1, h2⟩ | ⟨v, j, h1, h2⟩⟩ := h.find hk ha
  · simp [Instr.lookup, run_underlying ht, MapKept.run_getObj_map hb, hk.check, h2, hz, h1]
  · simp [Instr.lookup, run_underlying ht, MapKept.run_getObj_map hb, hk.check, h2, hz, h1]
theorem PM.store (hk : KeyT P w κ G kt) {b : Nat} {m : α → Option β} (h : PM κ ν G w b m) {a : α} (ha : G a) {t e : TypeId} (ht : P.underlying t = some (.map kt e)) (v : β) :
    ∃ o, (Instr.mapUpdate t (.map (some b)) (κ a) (ν v)).run P w = .ok () (setBlock w b o) ∧ PM κ ν G (setBlock w b o) b (upd m a v) ∧ (∃ es clock, w.heap[b]? = some (.map es clock)) := by
  obtain ⟨es, clock, hb, hp, he, hm⟩ := h.is
  obtain ⟨d, hd, hnow⟩ := hk.under
  have hall : ∀ x ∈ es.toList, ∃ y, x.key = κ y ∧ G y := fun e h1 => by obtain ⟨x, v, h2, _, _, h3⟩ := he e h1; exact ⟨x, h2, h3⟩
  rcases run_findKey_of hd hnow hk.inj hk.eq ha es.toList hall with ⟨h1, h2⟩ | ⟨j, e0, h1, h2, h3⟩
  · refine ⟨.map (es.push { key := κ a, val := ν v, born := clock }) (clock + 1), ?_, ⟨_, _, heap_setBlock_same hb _, ?_, ?_, ?_⟩, es, clock, hb⟩
    · simp [Instr.mapUpdate, run_underlying ht, MapKept.run_getObj_map hb, hk.check, h1, MapKept.run_setObj_map _ hb, Result.andThen, setBlock]
    · rw [Array.toList_push]
      refine List.pairwise_append.2 ⟨hp, by simp, fun x hx y hy => ?_⟩
      rw [List.mem_singleton.1 hy]
      exact h2 x hx
    · intro x hx
      rw [Array.toList_push] at hx
      rcases List.mem_append.1 hx with h4 | h4
      · obtain ⟨y, u, h5, h6, h7, h8⟩ := he x h4
        have hne : y ≠ a := fun e => h2 x h4 (by rw [h5, e])
        exact ⟨y, u, h5, h6, by rw [upd_other _ _ hne]; exact h7, h8⟩
      · rw [List.mem_singleton.1 h4]
        exact ⟨a, v, rfl, rfl, upd_same _ _ _, ha⟩
    · intro x u hx
      by_cases hxa : x = a
      · subst hxa
        refine ⟨{ key := κ x, val := ν v, born := clock }, ?_, rfl⟩
        rw [Array.toList_push]
        exact List.mem_append_right _ (by simp)
      · rw [upd_other _ _ hxa] at hx
        obtain ⟨e, h4, h5⟩ := hm x u hx
        exact ⟨e, by rw [Array.toList_push]; exact List.mem_append_left _ h4, h5⟩
  · have hj : es[j]? = some e0 := by rw [← Array.getElem?_toList]; exact h2
    have hjl : j < es.size := (Array.getElem?_eq_some_iff.1 hj).1
    have hmod : es.modify j (fun e => { e with key := κ a, val := ν v }) = es.setIfInBounds j { e0 with key := κ a, val := ν v } := by
      apply Array.toList_inj.1
      rw [Array.toList_modify, Array.toList_setIfInBounds]
      exact modify_eq_set _ _ _ _ h2
    refine ⟨.map (es.setIfInBounds j { e0 with key := κ a, val := ν v }) clock, ?_, ⟨_, _, heap_setBlock_same hb _, ?_, ?_, ?_⟩, es, clock, hb⟩
    · have hst : (Instr.keyThatStays e0.key (κ a)).run P w = .ok (κ a) w := by rw [h3]; exact hk.stays a
      simp only [← hmod]
      simp [Instr.mapUpdate, run_underlying ht, MapKept.run_getObj_map hb, hk.check, h1, hj, hst, MapKept.run_setObj_map _ hb, Result.andThen, setBlock]
    · rw [Array.toList_setIfInBounds]
      have hkey : (es.toList.set j { e0 with key := κ a, val := ν v }).map (·.key) = es.toList.map (·.key) := by
        rw [List.map_set]
        refine List.ext_getElem? fun i => ?_
        rw [List.getElem?_set]
        split
        · rename_i hij
          subst hij
          split
          · rw [List.getElem?_map, h2]
            simp [h3]
          · rename_i hlt
            exact absurd (by simpa using hjl) hlt
        · rfl
      have h5 : (es.toList.map (·.key)).Pairwise (fun x y => x ≠ y) := List.pairwise_map.2 hp
      rw [← hkey] at h5
      exact List.pairwise_map.1 h5
    · intro x hx
      rw [Array.toList_setIfInBounds] at hx
      obtain ⟨i, hi, hxe⟩ := List.mem_iff_getElem.1 hx
      rw [List.getElem_set] at hxe
      split at hxe
      · subst hxe
        exact ⟨a, v, rfl, rfl, upd_same _ _ _, ha⟩
      · rename_i hij
        have hmem : x ∈ es.toList := hxe ▸ List.getElem_mem _
        obtain ⟨y, u, h5, h6, h7, h8⟩ := he x hmem
        have hne : y ≠ a := fun e => by
          have hi' : i < es.toList.length := by simpa using hi
          have hj' : j < es.toList.length := by simpa using hjl
          have e1 : es.toList[j] = e0 := by
            have := h2
            rw [List.getElem?_eq_getElem hj'] at this
            exact Option.some.inj this
          have hk1 : es.toList[i].key = es.toList[j].key := by rw [hxe, h5, e, e1, h3]
          rcases Nat.lt_or_gt_of_ne hij with hlt | hlt
          · exact List.pairwise_iff_getElem.1 hp j i hj' hi' hlt hk1.symm
          · exact List.pairwise_iff_getElem.1 hp i j hi' hj' hlt hk1
        exact ⟨y, u, h5, h6, by rw [upd_other _ _ hne]; exact h7, h8⟩
    · intro x u hx
      rw [Array.toList_setIfInBounds]
      have hself : ({ e0 with key := κ a, val := ν v } : MapEntry) ∈ es.toList.set j { e0 with key := κ a, val := ν v } := List.mem_iff_getElem.2 ⟨j, by simpa using hjl, by simp⟩
      by_cases hxa : x = a
      · subst hxa
        exact ⟨_, hself, rfl⟩
      · rw [upd_other _ _ hxa] at hx
        obtain ⟨e, h4, h5⟩ := hm x u hx
        obtain ⟨i, hi, hie⟩ := List.mem_iff_getElem.1 h4
        have hij : j ≠ i := fun e1 => by
          subst e1
          have e2 : e = e0 := by
            have := h2
            rw [List.getElem?_eq_getElem hi, hie] at this
            exact Option.some.inj this
          rw [e2, h3] at h5
          exact hxa (hk.inj _ _ h5).symm
        refine ⟨e, List.mem_iff_getElem.2 ⟨i, by simpa using hi, ?_⟩, h5⟩
        rw [List.getElem_set, if_neg hij, hie]
theorem PM.made (b : World) : PM κ ν G (b.alloc (.map #[] 0)) b.heap.size (fun _ => none) :=
  ⟨#[], 0, by show (b.heap.push _)[b.heap.size]? = _; simp, by simp, by simp, by simp⟩
theorem PM.kept {w' : World} {b : Nat} {m : α → Option β} (h : PM κ ν G w b m) (hb : w'.heap[b]? = w.heap[b]?) : PM κ ν G w' b m := by
  obtain ⟨es, clock, h1, h2⟩ := h.is
  exact ⟨es, clock, hb.trans h1, h2⟩
theorem PM.lt {b : Nat} {m : α → Option β} (h : PM κ ν G w b m) : b < w.heap.size := by
  obtain ⟨es, clock, h1, h2⟩ := h.is
  exact (Array.getElem?_eq_some_iff.1 h1).1
theorem PM.good {b : Nat} {m : α → Option β} (h : PM κ ν G w b m) {a : α} {v : β} (hm : m a = some v) (hinj : ∀ a b, κ a = κ b → a = b) : G a := by
  obtain ⟨es, clock, h1, h2, h3, h4⟩ := h.is
  obtain ⟨e, h5, h6⟩ := h4 a v hm
  obtain ⟨x, u, h7, _, _, h8⟩ := h3 e h5
  exact hinj _ _ (h6.symm.trans h7) ▸ h8
theorem PM.mono {G' : α → Prop} {b : Nat} {m : α → Option β} (h : PM κ ν G w b m) (hG : ∀ a, G a → G' a) : PM κ ν G' w b m := by
  obtain ⟨es, clock, h1, h2, h3, h4⟩ := h.is
  exact ⟨es, clock, h1, h2, fun e he => by obtain ⟨x, u, a1, a2, a3, a4⟩ := h3 e he; exact ⟨x, u, a1, a2, a3, hG _ a4⟩, h4⟩
end

/-! The two kinds of keys. -/
def kA (a : Addr) : Value := .pointer (some a)
def kB (p : Addr × Addr) : Value := .agg #[.pointer (some p.1), .pointer (some p.2)]
def vI (n : Int) : Value := .int .i64 n
def vU (_ : Unit) : Value := .agg #[]
/-- An address of a row that nobody else may see as a string's. -/
def Plain (w : World) (a : Addr) : Prop := ∃ c t, w.heap[a.block]? = some (.cells c t (0, 0))
def PlainB (w : World) (p : Addr × Addr) : Prop := Plain w p.1 ∧ Plain w p.2
theorem run_equalIn_ptr (d : Nat) {w : World} {a b : Addr} (ha : Plain w a) (hb : Plain w b) : (Op.equalIn (d + 1) 59 (.pointer (some a)) (.pointer (some b))).run Tryd.prog w = .ok (decide (a = b)) w := by
  obtain ⟨ca, ta, ha⟩ := ha
  obtain ⟨cb, tb, hb⟩ := hb
  have hte : (Tryd.prog.info? 28).map (fun i => i.size) = some 3 := by kernel_rfl
  obtain ⟨j, hj, hj3⟩ := Option.map_eq_some_iff.1 hte
  by_cases hab : a = b
  · subst hab
    simp [Op.equalIn, run_underlying Tryd.underlying59, sizeOf, typeInfo, hj, hj3, run_sameAddr_same]
  · simp [Op.equalIn, run_underlying Tryd.underlying59, sizeOf, typeInfo, hj, hj3, run_sameAddr_other w hab ha hb, hab]
theorem keyA (w : World) : KeyT Tryd.prog w kA (Plain w) 59 where
  under := ⟨_, Tryd.underlying59, fun a v => rfl⟩
  inj a b h := by simp only [kA, Value.pointer.injEq, Option.some.injEq] at h; exact h
  eq a b ha hb := ⟨decide (a = b), by unfold Op.equal Op.maxDepth; exact run_equalIn_ptr 9999 ha hb, by simp⟩
  check em a := by
    have : ∀ d, (Instr.checkKey em (d + 1) 59 (kA a)).run Tryd.prog w = .ok () w := fun d => by simp [Instr.checkKey, run_underlying Tryd.underlying59, kA]
    exact this 9999
  stays a := by
    have : ∀ d, Instr.sameBits (d + 1) (kA a) (kA a) = true := fun d => by simp [Instr.sameBits, kA]
    simp [Instr.keyThatStays, this 9999]
end Go.Proofs.YtjmfneljgogohaaDoor.exp

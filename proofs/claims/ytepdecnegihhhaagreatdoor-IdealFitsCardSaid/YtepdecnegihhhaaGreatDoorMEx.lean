/- Plain facts on expressions: size, depth, which may be. No program's run in this .. -/
import Init
import Derived.Test.YtepdecnegihhhaaGreatDoorRows
import Derived.WalkKit
import Derived.Maps.OwnSet
import Derived.LaidEqlPtr
import Derived.Lib.Hide
import Derived.Test.YtepdecnegihhhaaGreatDoorMNm
import Derived.BigQuiet
import Derived.Handy
import Derived.Lib.OthersKept
import Derived.OwnWalk
import Derived.Deep.OwnRows
import Derived.Deep.MidRow
import Derived.Deep.LoopGhost
import Derived.Deep.QuietTactic
import Derived.Deep.Light
import Derived.Deep.RegionWith
import Derived.Deep.DeepCutAuto
import Derived.Lib.BufferOwn
import Derived.Shelf.Abstract
import Derived.Laws.EntriesVeiled
set_option linter.unusedSimpArgs false
set_option linter.unusedVariables false
section
namespace Go.Proofs.YtepdecnegihhhaaGreatDoor.exp
inductive Ex where
 | mk (op : Nat) (n : Int) (args : List Ex)
def Ex.op : Ex → Nat
 | .mk o _ _ => o
def Ex.n : Ex → Int
 | .mk _ n _ => n
def Ex.args : Ex → List Ex
 | .mk _ _ l => l
def Ex.zero : Ex := .mk 0 0 []
instance : Inhabited Ex := ⟨Ex.zero⟩
theorem Ex.ext' {x y : Ex} (ho : x.op = y.op) (hn : x.n = y.n) (ha : x.args = y.args) : x = y := by
 cases x; cases y; simp only [Ex.op, Ex.n, Ex.args] at ho hn ha; subst ho; subst hn; subst ha; rfl
mutual
def Ex.size : Ex → Nat
 | .mk _ _ l => 1 + sizes l
def sizes : List Ex → Nat
 | [] => 0
 | x :: l => x.size + sizes l
end
mutual
def Ex.dep : Ex → Nat
 | .mk _ _ l => 1 + deps l
def deps : List Ex → Nat
 | [] => 0
 | x :: l => max x.dep (deps l)
end
mutual
def good (F : Nat → Int → Nat → Nat → Bool) : Ex → Nat → Bool
 | .mk o n l, d => F o n l.length d && goods F l (d + 1)
def goods (F : Nat → Int → Nat → Nat → Bool) : List Ex → Nat → Bool
 | [], _ => true
 | x :: l, d => good F x d && goods F l d
end
theorem size_mk (o : Nat) (n : Int) (l : List Ex) : (Ex.mk o n l).size = 1 + sizes l := by rw [Ex.size]
theorem sizes_nil : sizes [] = 0 := by rw [sizes]
theorem sizes_cons (x : Ex) (l : List Ex) : sizes (x :: l) = x.size + sizes l := by rw [sizes]
theorem dep_mk (o : Nat) (n : Int) (l : List Ex) : (Ex.mk o n l).dep = 1 + deps l := by rw [Ex.dep]
theorem deps_nil : deps [] = 0 := by rw [deps]
theorem deps_cons (x : Ex) (l : List Ex) : deps (x :: l) = max x.dep (deps l) := by rw [deps]
theorem good_mk (F : Nat → Int → Nat → Nat → Bool) (o : Nat) (n : Int) (l : List Ex) (d : Nat) : good F (.mk o n l) d = (F o n l.length d && goods F l (d + 1)) := by rw [good]
theorem goods_nil (F : Nat → Int → Nat → Nat → Bool) (d : Nat) : goods F [] d = true := by rw [goods]
theorem goods_cons (F : Nat → Int → Nat → Nat → Bool) (x : Ex) (l : List Ex) (d : Nat) : goods F (x :: l) d = (good F x d && goods F l d) := by rw [goods]
theorem size_pos (x : Ex) : 1 ≤ x.size := by cases x; rw [size_mk]; omega
theorem size_eq (x : Ex) : x.size = 1 + sizes x.args := by cases x; rw [size_mk]; rfl
theorem dep_eq (x : Ex) : x.dep = 1 + deps x.args := by cases x; rw [dep_mk]; rfl
theorem good_eq (F : Nat → Int → Nat → Nat → Bool) (x : Ex) (d : Nat) : good F x d = (F x.op x.n x.args.length d && goods F x.args (d + 1)) := by cases x; rw [good_mk]; rfl
theorem sizes_mem {x : Ex} {l : List Ex} (h : x ∈ l) : x.size ≤ sizes l := by
 induction l with
 | nil => cases h
 | cons y l ih =>
  rw [sizes_cons]
  rcases List.mem_cons.1 h with rfl | h'
  · omega
  · have := ih h'; omega
theorem sizes_len (l : List Ex) : l.length ≤ sizes l := by
 induction l with
 | nil => simp
 | cons x l ih => rw [sizes_cons, List.length_cons]; have := size_pos x; omega
theorem size_arg {x y : Ex} (h : y ∈ x.args) : y.size < x.size := by
 rw [size_eq x]; have := sizes_mem h; omega
theorem Ex.ind {P : Ex → Prop} (h : ∀ x, (∀ y ∈ x.args, P y) → P x) : ∀ x, P x := by
 have : ∀ (k : Nat) (x : Ex), x.size ≤ k → P x := by
  intro k
  induction k with
  | zero => intro x hx; have := size_pos x; omega
  | succ k ih => exact fun x hx => h x fun y hy => ih y (by have := size_arg hy; omega)
 exact fun x => this _ x (Nat.le_refl _)
def Falls (F : Nat → Int → Nat → Nat → Bool) : Prop := ∀ o n m d d', d ≤ d' → F o n m d' = true → F o n m d = true
theorem goods_mem {F : Nat → Int → Nat → Nat → Bool} {l : List Ex} {d : Nat} : goods F l d = true ↔ ∀ x ∈ l, good F x d = true := by
 induction l with
 | nil => simp [goods_nil]
 | cons y l ih => simp [goods_cons, ih]
theorem good_falls {F : Nat → Int → Nat → Nat → Bool} (hF : Falls F) : ∀ (x : Ex) (d d' : Nat), d ≤ d' → good F x d' = true → good F x d = true := by
 refine Ex.ind fun x ih d d' hd h => ?_
 rw [good_eq, Bool.and_eq_true] at *
 refine ⟨hF _ _ _ _ _ hd h.1, goods_mem.2 fun y hy => ih y hy (d + 1) (d' + 1) (by omega) (goods_mem.1 h.2 y hy)⟩
theorem goods_take {F : Nat → Int → Nat → Nat → Bool} {l : List Ex} {d k : Nat} (hk : k < l.length) (h : goods F (l.take k) d = true) (hg : good F l[k] d = true) : goods F (l.take (k + 1)) d = true := by
 rw [List.take_succ_eq_append_getElem hk]
 refine goods_mem.2 fun x hx => ?_
 rcases List.mem_append.1 hx with h' | h'
 · exact goods_mem.1 h x h'
 · rw [List.mem_singleton.1 h']; exact hg
theorem deps_take {l : List Ex} {k : Nat} (hk : k < l.length) : deps (l.take (k + 1)) = max (deps (l.take k)) (l[k].dep) := by
 induction l generalizing k with
 | nil => simp at hk
 | cons x l ih =>
  cases k with
  | zero => simp [deps_cons, deps_nil]
  | succ k =>
   simp only [List.take_succ_cons, deps_cons, List.getElem_cons_succ]
   rw [ih (by simpa using hk)]
   omega
theorem deps_mem {x : Ex} {l : List Ex} (h : x ∈ l) : x.dep ≤ deps l := by
 induction l with
 | nil => cases h
 | cons y l ih =>
  rw [deps_cons]
  rcases List.mem_cons.1 h with rfl | h'
  · omega
  · have := ih h'; omega
theorem deps_le {l : List Ex} {k : Nat} (h : ∀ x ∈ l, x.dep ≤ k) : deps l ≤ k := by
 induction l with
 | nil => rw [deps_nil]; omega
 | cons y l ih =>
  rw [deps_cons]
  have := h y (by simp)
  have := ih fun x hx => h x (by simp [hx])
  omega
def fitsB (o : Nat) (n : Int) (many : Nat) : Bool :=
 if n < 0 ∨ 0 < n ∧ o ≠ 1 then false
 else if o = 1 ∨ o = 2 ∨ o = 3 ∨ o = 4 then many == 0
 else if o = 5 ∨ o = 6 then many == 1
 else if o = 18 then many == 3
 else decide (7 ≤ o ∧ o ≤ 17 ∧ many = 2)
def FM (o : Nat) (n : Int) (m d : Nat) : Bool := decide (d ≤ 16) && fitsB o n m
def FD (_ : Nat) (_ : Int) (_ d : Nat) : Bool := decide (d ≤ 16)
theorem falls_FM : Falls FM := by
 intro o n m d d' hd h
 simp only [FM, Bool.and_eq_true, decide_eq_true_eq] at *
 exact ⟨by omega, h.2⟩
theorem falls_FD : Falls FD := by
 intro o n m d d' hd h
 simp only [FD, decide_eq_true_eq] at *
 omega
def Fit : Ex → Prop := fun x => good (fun o n m _ => fitsB o n m) x 0 = true
theorem good_const {G : Nat → Int → Nat → Bool} : ∀ (x : Ex) (d d' : Nat), good (fun o n m _ => G o n m) x d = good (fun o n m _ => G o n m) x d' := by
 refine Ex.ind fun x ih d d' => ?_
 rw [good_eq, good_eq]
 congr 1
 rw [Bool.eq_iff_iff, goods_mem, goods_mem]
 exact ⟨fun h y hy => (ih y hy _ _) ▸ h y hy, fun h y hy => (ih y hy _ _) ▸ h y hy⟩
theorem fit_eq (x : Ex) : Fit x ↔ fitsB x.op x.n x.args.length = true ∧ ∀ y ∈ x.args, Fit y := by
 unfold Fit
 rw [good_eq, Bool.and_eq_true, goods_mem]
 constructor
 · rintro ⟨h1, h2⟩
   exact ⟨h1, fun y hy => (good_const y _ _) ▸ h2 y hy⟩
 · rintro ⟨h1, h2⟩
   exact ⟨h1, fun y hy => (good_const y _ _) ▸ h2 y hy⟩
theorem good_FD : ∀ (x : Ex) (d : Nat), good FD x d = decide (d + x.dep ≤ 17) := by
 refine Ex.ind fun x ih d => ?_
 rw [good_eq, Bool.eq_iff_iff, Bool.and_eq_true, goods_mem, dep_eq]
 simp only [FD, decide_eq_true_eq]
 constructor
 · rintro ⟨h1, h2⟩
   have : deps x.args ≤ 16 - d := deps_le fun y hy => by
    have := h2 y hy
    rw [ih y hy] at this
    simp only [decide_eq_true_eq] at this
    omega
   omega
 · intro h
   refine ⟨by omega, fun y hy => ?_⟩
   rw [ih y hy]
   have := deps_mem hy
   simp only [decide_eq_true_eq]
   omega
theorem good_FM : ∀ (x : Ex) (d : Nat), good FM x d = true ↔ d + x.dep ≤ 17 ∧ Fit x := by
 refine Ex.ind fun x ih d => ?_
 rw [good_eq, Bool.and_eq_true, goods_mem, dep_eq, fit_eq]
 simp only [FM, Bool.and_eq_true, decide_eq_true_eq]
 constructor
 · rintro ⟨h1, h2⟩
   have : deps x.args ≤ 16 - d := deps_le fun y hy => by
    have := (ih y hy _).1 (h2 y hy)
    omega
   exact ⟨by omega, h1.2, fun y hy => ((ih y hy _).1 (h2 y hy)).2⟩
 · rintro ⟨h1, h2, h3⟩
   refine ⟨⟨by omega, h2⟩, fun y hy => (ih y hy _).2 ⟨?_, h3 y hy⟩⟩
   have := deps_mem hy
   omega
end Go.Proofs.YtepdecnegihhhaaGreatDoor.exp
end
section
namespace Go.Proofs.YtepdecnegihhhaaGreatDoor.exp
set_option linter.unusedSectionVars false
open Go.ChangeMaps (setBlock heap_setBlock_same heap_setBlock_other modify_eq_set)
open Go.MapKept
section
variable {P : Program} {w : World} {α β : Type} [DecidableEq α] {κ : α → Value} {ν : β → Value} {G : α → Prop} {kt : TypeId}
structure PM (κ : α → Value) (ν : β → Value) (G : α → Prop) (w : World) (b : Nat) (m : α → Option β) : Prop where
 is : ∃ es clock, w.heap[b]? = some (.map es clock) ∧ es.toList.Pairwise (fun x y => x.key ≠ y.key) ∧ (∀ e ∈ es.toList, ∃ a v, e.key = κ a ∧ e.val = ν v ∧ m a = some v ∧ G a) ∧ ∀ a v, m a = some v → ∃ e ∈ es.toList, e.key = κ a
def upd (m : α → Option β) (a : α) (v : β) : α → Option β := fun x => if x = a then some v else m x
theorem upd_same (m : α → Option β) (a : α) (v : β) : upd m a v a = some v := by simp [upd]
theorem upd_other (m : α → Option β) {a x : α} (v : β) (h : x ≠ a) : upd m a v x = m x := by simp [upd, h]
theorem run_asking (hinj : ∀ a b, κ a = κ b → a = b) (heq : ∀ a b, G a → G b → ∃ r : Bool, (Op.equal kt (κ a) (κ b)).run P w = .ok r w ∧ (r = true ↔ a = b)) {a : α} (ha : G a) :
  ∀ (es : List MapEntry) (i : Nat), (∀ e ∈ es, ∃ x, e.key = κ x ∧ G x) →
   ((Instr.findAsking kt (κ a) es i).run P w = .ok none w ∧ ∀ e ∈ es, e.key ≠ κ a) ∨
   ∃ j e, (Instr.findAsking kt (κ a) es i).run P w = .ok (some (i + j, e.val)) w ∧ es[j]? = some e ∧ e.key = κ a
 | [], i, _ => Or.inl ⟨by simp [Instr.findAsking], by simp⟩
 | e :: es, i, hall => by
  obtain ⟨x, hx, gx⟩ := hall e (by simp)
  obtain ⟨r, hr, hiff⟩ := heq a x ha gx
  rw [← hx] at hr
  cases r with
  | true => exact Or.inr ⟨0, e, by simp [Instr.findAsking, hr], rfl, by rw [hx, hiff.1 rfl]⟩
  | false =>
   have hne : e.key ≠ κ a := fun h => by
    have := hiff.2 (hinj _ _ (by rw [← hx, h]))
    cases this
   rcases run_asking hinj heq ha es (i + 1) (fun y hy => hall y (by simp [hy])) with ⟨h1, h2⟩ | ⟨j, e', h1, h2, h3⟩
   · refine Or.inl ⟨by simp [Instr.findAsking, hr, h1], fun y hy => ?_⟩
     rcases List.mem_cons.1 hy with rfl | hy
     · exact hne
     · exact h2 y hy
   · exact Or.inr ⟨j + 1, e', by simp [Instr.findAsking, hr, h1, Nat.add_assoc, Nat.add_comm 1 j], by simpa using h2, h3⟩
theorem run_findKey_of {d : TypeDesc} (hd : P.underlying kt = some d) (hnow : ∀ a v, Instr.sameNow d (κ a) v = none) (hinj : ∀ a b, κ a = κ b → a = b) (heq : ∀ a b, G a → G b → ∃ r : Bool, (Op.equal kt (κ a) (κ b)).run P w = .ok r w ∧ (r = true ↔ a = b)) {a : α} (ha : G a)
  (es : List MapEntry) (hall : ∀ e ∈ es, ∃ x, e.key = κ x ∧ G x) :
   ((Instr.findKey kt (κ a) es).run P w = .ok none w ∧ ∀ e ∈ es, e.key ≠ κ a) ∨
   ∃ j e, (Instr.findKey kt (κ a) es).run P w = .ok (some (j, e.val)) w ∧ es[j]? = some e ∧ e.key = κ a := by
 cases es with
 | nil => exact Or.inl ⟨by simp [Instr.findKey, run_underlying hd, Instr.findNow], by simp⟩
 | cons e l =>
  have hn : Instr.findNow d (κ a) (e :: l) 0 = none := by simp [Instr.findNow, hnow]
  rcases run_asking hinj heq ha (e :: l) 0 hall with ⟨h1, h2⟩ | ⟨j, e', h1, h2, h3⟩
  · exact Or.inl ⟨by simp [Instr.findKey, run_underlying hd, hn, h1], h2⟩
  · exact Or.inr ⟨j, e', by simp [Instr.findKey, run_underlying hd, hn, h1], h2, h3⟩
structure KeyT (P : Program) (w : World) (κ : α → Value) (G : α → Prop) (kt : TypeId) : Prop where
 under : ∃ d, P.underlying kt = some d ∧ ∀ a v, Instr.sameNow d (κ a) v = none
 inj : ∀ a b, κ a = κ b → a = b
 eq : ∀ a b, G a → G b → ∃ r : Bool, (Op.equal kt (κ a) (κ b)).run P w = .ok r w ∧ (r = true ↔ a = b)
 check : ∀ em a, (Instr.checkKey em 10000 kt (κ a)).run P w = .ok () w
 stays : ∀ a, (Instr.keyThatStays (κ a) (κ a)).run P w = .ok (κ a) w
theorem PM.find (hk : KeyT P w κ G kt) {b : Nat} {m : α → Option β} (h : PM κ ν G w b m) {a : α} (ha : G a) : ∃ es clock, w.heap[b]? = some (.map es clock) ∧
  ((m a = none ∧ (Instr.findKey kt (κ a) es.toList).run P w = .ok none w) ∨ ∃ v j, m a = some v ∧ (Instr.findKey kt (κ a) es.toList).run P w = .ok (some (j, ν v)) w) := by
 obtain ⟨es, clock, hb, hp, he, hm⟩ := h.is
 obtain ⟨d, hd, hnow⟩ := hk.under
 refine ⟨es, clock, hb, ?_⟩
 rcases run_findKey_of hd hnow hk.inj hk.eq ha es.toList (fun e h1 => by obtain ⟨x, v, h2, _, _, h3⟩ := he e h1; exact ⟨x, h2, h3⟩) with ⟨h1, h2⟩ | ⟨j, e, h1, h2, h3⟩
 · refine .inl ⟨?_, h1⟩
   cases hma : m a with
   | none => rfl
   | some v =>
    obtain ⟨e, h4, h5⟩ := hm a v hma
    exact absurd h5 (h2 e h4)
 · obtain ⟨x, v, h4, h5, h6, _⟩ := he e (List.mem_of_getElem? h2)
   have := hk.inj _ _ (h4.symm.trans h3)
   subst this
   exact .inr ⟨v, j, h6, by rw [h1, h5]⟩
theorem PM.look (hk : KeyT P w κ G kt) {b : Nat} {m : α → Option β} (h : PM κ ν G w b m) {a : α} (ha : G a) {t e : TypeId} (ht : P.underlying t = some (.map kt e)) {z : Value} (hz : (zeroValue e).run P w = .ok z w) (ok : Bool) :
  (Instr.lookup t (.map (some b)) (κ a) ok).run P w = .ok (if ok then .tuple #[(m a).elim z ν, .bool (m a).isSome] else (m a).elim z ν) w := by
 obtain ⟨es, clock, hb, ⟨h1, h2⟩ | ⟨v, j, h1, h2⟩⟩ := h.find hk ha
 · simp [Instr.lookup, run_underlying ht, MapKept.run_getObj_map hb, hk.check, h2, hz, h1]
 · simp [Instr.lookup, run_underlying ht, MapKept.run_getObj_map hb, hk.check, h2, hz, h1]
theorem PM.store (hk : KeyT P w κ G kt) {b : Nat} {m : α → Option β} (h : PM κ ν G w b m) {a : α} (ha : G a) {t e : TypeId} (ht : P.underlying t = some (.map kt e)) (v : β) :
  ∃ o, (Instr.mapUpdate t (.map (some b)) (κ a) (ν v)).run P w = .ok () (setBlock w b o) ∧ PM κ ν G (setBlock w b o) b (upd m a v) ∧ (∃ es clock, w.heap[b]? = some (.map es clock)) := by
 obtain ⟨es, clock, hb, hp, he, hm⟩ := h.is
 obtain ⟨d, hd, hnow⟩ := hk.under
 have hall : ∀ x ∈ es.toList, ∃ y, x.key = κ y ∧ G y := fun e h1 => by obtain ⟨x, v, h2, _, _, h3⟩ := he e h1; exact ⟨x, h2, h3⟩
 rcases run_findKey_of hd hnow hk.inj hk.eq ha es.toList hall with ⟨h1, h2⟩ | ⟨j, e0, h1, h2, h3⟩
 · refine ⟨.map (es.push { key := κ a, val := ν v, born := clock }) (clock + 1), ?_, ⟨_, _, heap_setBlock_same hb _, ?_, ?_, ?_⟩, es, clock, hb⟩
   · simp [Instr.mapUpdate, run_underlying ht, MapKept.run_getObj_map hb, hk.check, h1, MapKept.run_setObj_map _ hb, Result.andThen, setBlock]
   · rw [Array.toList_push]
     refine List.pairwise_append.2 ⟨hp, by simp, fun x hx y hy => ?_⟩
     rw [List.mem_singleton.1 hy]
     exact h2 x hx
   · intro x hx
     rw [Array.toList_push] at hx
     rcases List.mem_append.1 hx with h4 | h4
     · obtain ⟨y, u, h5, h6, h7, h8⟩ := he x h4
       have hne : y ≠ a := fun e => h2 x h4 (by rw [h5, e])
       exact ⟨y, u, h5, h6, by rw [upd_other _ _ hne]; exact h7, h8⟩
     · rw [List.mem_singleton.1 h4]
       exact ⟨a, v, rfl, rfl, upd_same _ _ _, ha⟩
   · intro x u hx
     by_cases hxa : x = a
     · subst hxa
       refine ⟨{ key := κ x, val := ν v, born := clock }, ?_, rfl⟩
       rw [Array.toList_push]
       exact List.mem_append_right _ (by simp)
     · rw [upd_other _ _ hxa] at hx
       obtain ⟨e, h4, h5⟩ := hm x u hx
       exact ⟨e, by rw [Array.toList_push]; exact List.mem_append_left _ h4, h5⟩
 · have hj : es[j]? = some e0 := by rw [← Array.getElem?_toList]; exact h2
   have hjl : j < es.size := (Array.getElem?_eq_some_iff.1 hj).1
   have hmod : es.modify j (fun e => { e with key := κ a, val := ν v }) = es.setIfInBounds j { e0 with key := κ a, val := ν v } := by
    apply Array.toList_inj.1
    rw [Array.toList_modify, Array.toList_setIfInBounds]
    exact modify_eq_set _ _ _ _ h2
   refine ⟨.map (es.setIfInBounds j { e0 with key := κ a, val := ν v }) clock, ?_, ⟨_, _, heap_setBlock_same hb _, ?_, ?_, ?_⟩, es, clock, hb⟩
   · have hst : (Instr.keyThatStays e0.key (κ a)).run P w = .ok (κ a) w := by rw [h3]; exact hk.stays a
     simp only [← hmod]
     simp [Instr.mapUpdate, run_underlying ht, MapKept.run_getObj_map hb, hk.check, h1, hj, hst, MapKept.run_setObj_map _ hb, Result.andThen, setBlock]
   · rw [Array.toList_setIfInBounds]
     have hkey : (es.toList.set j { e0 with key := κ a, val := ν v }).map (·.key) = es.toList.map (·.key) := by
      rw [List.map_set]
      refine List.ext_getElem? fun i => ?_
      rw [List.getElem?_set]
      split
      · rename_i hij
        subst hij
        split
        · rw [List.getElem?_map, h2]
          simp [h3]
        · rename_i hlt
          exact absurd (by simpa using hjl) hlt
      · rfl
     have h5 : (es.toList.map (·.key)).Pairwise (fun x y => x ≠ y) := List.pairwise_map.2 hp
     rw [← hkey] at h5
     exact List.pairwise_map.1 h5
   · intro x hx
     rw [Array.toList_setIfInBounds] at hx
     obtain ⟨i, hi, hxe⟩ := List.mem_iff_getElem.1 hx
     rw [List.getElem_set] at hxe
     split at hxe
     · subst hxe
       exact ⟨a, v, rfl, rfl, upd_same _ _ _, ha⟩
     · rename_i hij
       have hmem : x ∈ es.toList := hxe ▸ List.getElem_mem _
       obtain ⟨y, u, h5, h6, h7, h8⟩ := he x hmem
       have hne : y ≠ a := fun e => by
        have hi' : i < es.toList.length := by simpa using hi
        have hj' : j < es.toList.length := by simpa using hjl
        have e1 : es.toList[j] = e0 := by
         have := h2
         rw [List.getElem?_eq_getElem hj'] at this
         exact Option.some.inj this
        have hk1 : es.toList[i].key = es.toList[j].key := by rw [hxe, h5, e, e1, h3]
        rcases Nat.lt_or_gt_of_ne hij with hlt | hlt
        · exact List.pairwise_iff_getElem.1 hp j i hj' hi' hlt hk1.symm
        · exact List.pairwise_iff_getElem.1 hp i j hi' hj' hlt hk1
       exact ⟨y, u, h5, h6, by rw [upd_other _ _ hne]; exact h7, h8⟩
   · intro x u hx
     rw [Array.toList_setIfInBounds]
     have hself : ({ e0 with key := κ a, val := ν v } : MapEntry) ∈ es.toList.set j { e0 with key := κ a, val := ν v } := List.mem_iff_getElem.2 ⟨j, by simpa using hjl, by simp⟩
     by_cases hxa : x = a
     · subst hxa
       exact ⟨_, hself, rfl⟩
     · rw [upd_other _ _ hxa] at hx
       obtain ⟨e, h4, h5⟩ := hm x u hx
       obtain ⟨i, hi, hie⟩ := List.mem_iff_getElem.1 h4
       have hij : j ≠ i := fun e1 => by
        subst e1
        have e2 : e = e0 := by
         have := h2
         rw [List.getElem?_eq_getElem hi, hie] at this
         exact Option.some.inj this
        rw [e2, h3] at h5
        exact hxa (hk.inj _ _ h5).symm
       refine ⟨e, List.mem_iff_getElem.2 ⟨i, by simpa using hi, ?_⟩, h5⟩
       rw [List.getElem_set, if_neg hij, hie]
theorem PM.made (b : World) : PM κ ν G (b.alloc (.map #[] 0)) b.heap.size (fun _ => none) :=
 ⟨#[], 0, by show (b.heap.push _)[b.heap.size]? = _; simp, by simp, by simp, by simp⟩
theorem PM.kept {w' : World} {b : Nat} {m : α → Option β} (h : PM κ ν G w b m) (hb : w'.heap[b]? = w.heap[b]?) : PM κ ν G w' b m := by
 obtain ⟨es, clock, h1, h2⟩ := h.is
 exact ⟨es, clock, hb.trans h1, h2⟩
theorem PM.lt {b : Nat} {m : α → Option β} (h : PM κ ν G w b m) : b < w.heap.size := by
 obtain ⟨es, clock, h1, h2⟩ := h.is
 exact (Array.getElem?_eq_some_iff.1 h1).1
end
def kA (a : Addr) : Value := .pointer (some a)
def kB (p : Addr × Addr) : Value := .agg #[.pointer (some p.1), .pointer (some p.2)]
def vI (n : Int) : Value := .int .i64 n
def vU (_ : Unit) : Value := .agg #[]
def Plain (w : World) (a : Addr) : Prop := ∃ c t, w.heap[a.block]? = some (.cells c t (0, 0))
def PlainB (w : World) (p : Addr × Addr) : Prop := Plain w p.1 ∧ Plain w p.2
theorem run_equalIn_ptr (d : Nat) {w : World} {a b : Addr} (ha : Plain w a) (hb : Plain w b) : (Op.equalIn (d + 1) 161 (.pointer (some a)) (.pointer (some b))).run Tryz.prog w = .ok (decide (a = b)) w := by
 obtain ⟨ca, ta, ha⟩ := ha
 obtain ⟨cb, tb, hb⟩ := hb
 have hte : (Tryz.prog.info? 46).map (fun i => i.size) = some 3 := by kernel_rfl
 obtain ⟨j, hj, hj3⟩ := Option.map_eq_some_iff.1 hte
 by_cases hab : a = b
 · subst hab
   simp [Op.equalIn, run_underlying Tryz.underlying161, sizeOf, typeInfo, hj, hj3, run_sameAddr_same]
 · simp [Op.equalIn, run_underlying Tryz.underlying161, sizeOf, typeInfo, hj, hj3, run_sameAddr_other w hab ha hb, hab]
theorem keyA (w : World) : KeyT Tryz.prog w kA (Plain w) 161 where
 under := ⟨_, Tryz.underlying161, fun a v => rfl⟩
 inj a b h := by simp only [kA, Value.pointer.injEq, Option.some.injEq] at h; exact h
 eq a b ha hb := ⟨decide (a = b), by unfold Op.equal Op.maxDepth; exact run_equalIn_ptr 9999 ha hb, by simp⟩
 check em a := by
  have : ∀ d, (Instr.checkKey em (d + 1) 161 (kA a)).run Tryz.prog w = .ok () w := fun d => by simp [Instr.checkKey, run_underlying Tryz.underlying161, kA]
  exact this 9999
 stays a := by
  have : ∀ d, Instr.sameBits (d + 1) (kA a) (kA a) = true := fun d => by simp [Instr.sameBits, kA]
  simp [Instr.keyThatStays, this 9999]
end Go.Proofs.YtepdecnegihhhaaGreatDoor.exp
end
section
namespace Go.Proofs.YtepdecnegihhhaaGreatDoor.exp
open Go.RowKit nam
def Any : Nat → Prop := fun _ => True
inductive Lies (w : World) (B : Nat → Prop) : Value → List Ex → Prop
 | nil : Lies w B (.slice none 0 0) []
 | row (b n c : Nat) (cur : Array Value) (xs : List Ex) (V : Nat → Value) (hB : B b) (hb : w.heap[b]? = some (.cells cur 46 (0, 0))) (hn : n = xs.length)
   (hc : ∀ i (h : i < xs.length), cur[i * 3]? = some (.int .u8 (xs[i].op : Int)) ∧ cur[i * 3 + 1]? = some (.int .i64 xs[i].n) ∧ cur[i * 3 + 2]? = some (V i))
   (hl : ∀ i (h : i < xs.length), Lies w B (V i) xs[i].args) : Lies w B (.slice (some ⟨b, 0, none⟩) n c) xs
def At (w : World) (B : Nat → Prop) (b o : Nat) (x : Ex) : Prop :=
 ∃ cur v, B b ∧ w.heap[b]? = some (.cells cur 46 (0, 0)) ∧ cur[o]? = some (.int .u8 (x.op : Int)) ∧ cur[o + 1]? = some (.int .i64 x.n) ∧ cur[o + 2]? = some v ∧ Lies w B v x.args
theorem Lies.frame {w w' : World} {B : Nat → Prop} {v : Value} {l : List Ex} (h : Lies w B v l) (hf : ∀ b c, B b → w.heap[b]? = some (.cells c 46 (0, 0)) → w'.heap[b]? = w.heap[b]?) : Lies w' B v l := by
 induction h with
 | nil => exact .nil
 | row b n c cur xs V hB hb hn hc hl ih => exact .row b n c cur xs V hB ((hf b cur hB hb).trans hb) hn hc fun i h => ih i h
theorem Lies.mono {w : World} {B B' : Nat → Prop} {v : Value} {l : List Ex} (h : Lies w B v l) (hB' : ∀ b, B b → B' b) : Lies w B' v l := by
 induction h with
 | nil => exact .nil
 | row b n c cur xs V hB hb hn hc hl ih => exact .row b n c cur xs V (hB' _ hB) hb hn hc fun i h => ih i h
theorem Lies.under {w w' : World} {B : Nat → Prop} {v : Value} {l : List Ex} (h : Lies w B v l) (hb : Below w.heap.size w w') : Lies w' B v l := h.frame fun b _ _ hb' => hb.block b (Array.getElem?_eq_some_iff.1 hb').1
theorem At.frame {w w' : World} {B : Nat → Prop} {b o : Nat} {x : Ex} (h : At w B b o x) (hf : ∀ b c, B b → w.heap[b]? = some (.cells c 46 (0, 0)) → w'.heap[b]? = w.heap[b]?) : At w' B b o x := by
 obtain ⟨cur, v, h1, h2, h3, h4, h5, h6⟩ := h
 exact ⟨cur, v, h1, (hf b cur h1 h2).trans h2, h3, h4, h5, h6.frame hf⟩
theorem At.below {w w' : World} {B : Nat → Prop} {b o : Nat} {x : Ex} (h : At w B b o x) (hb : Below w.heap.size w w') : At w' B b o x := h.frame fun b _ _ hb' => hb.block b (Array.getElem?_eq_some_iff.1 hb').1
theorem At.under' {w w' : World} {B : Nat → Prop} {b o : Nat} {x : Ex} (h : At w B b o x) (hb : Below w.heap.size w w') : At w' B b o x := h.below hb
theorem At.lt {w : World} {B : Nat → Prop} {b o : Nat} {x : Ex} (h : At w B b o x) : b < w.heap.size := by
 obtain ⟨cur, v, h1, h2, _⟩ := h
 exact (Array.getElem?_eq_some_iff.1 h2).1
theorem cell_of {w : World} {b o : Nat} {cur : Array Value} {t : TypeId} {fr : Nat × Nat} {v : Value} (hb : w.heap[b]? = some (.cells cur t fr)) (hv : cur[o]? = some v) : w.cell? ⟨b, o, none⟩ = some v := by
 simp [World.cell?, hb, hv]
theorem Lies.form {w : World} {B : Nat → Prop} {v : Value} {l : List Ex} (h : Lies w B v l) : ∃ a c, v = .slice a l.length c ∧ (0 < l.length → ∃ b, a = some ⟨b, 0, none⟩ ∧ ∀ i (h : i < l.length), At w B b (i * 3) l[i]) := by
 cases h with
 | nil => exact ⟨none, 0, rfl, fun h => by simp at h⟩
 | row b n c cur xs V hB hb hn hc hl => exact ⟨_, c, by rw [hn], fun _ => ⟨b, rfl, fun i hi => ⟨cur, V i, hB, hb, (hc i hi).1, (hc i hi).2.1, (hc i hi).2.2, hl i hi⟩⟩⟩
theorem Lies.here {w : World} {B : Nat → Prop} {v : Value} {l : List Ex} (h : Lies w B v l) : Lies w (fun b => B b ∧ b < w.heap.size) v l := by
 induction h with
 | nil => exact .nil
 | row b n c cur xs V hB hb hn hc hl ih => exact .row b n c cur xs V ⟨hB, (Array.getElem?_eq_some_iff.1 hb).1⟩ hb hn hc fun i h => ih i h
theorem At.cells {w : World} {B : Nat → Prop} {b o : Nat} {x : Ex} (h : At w B b o x) : ∃ a c, w.cell? ⟨b, o, none⟩ = some (.int .u8 (x.op : Int)) ∧ w.cell? ⟨b, o + 1, none⟩ = some (.int .i64 x.n) ∧ w.cell? ⟨b, o + 2, none⟩ = some (.slice a x.args.length c) ∧
  Lies w B (.slice a x.args.length c) x.args ∧ (0 < x.args.length → ∃ b, a = some ⟨b, 0, none⟩ ∧ ∀ i (h : i < x.args.length), At w B b (i * 3) x.args[i]) := by
 obtain ⟨cur, v, h1, h2, h3, h4, h5, h6⟩ := h
 obtain ⟨a, c, rfl, hf⟩ := h6.form
 exact ⟨a, c, cell_of h2 h3, cell_of h2 h4, cell_of h2 h5, h6, hf⟩
theorem Lies.det {w : World} {B : Nat → Prop} {v : Value} {l : List Ex} (h : Lies w B v l) : ∀ {B' : Nat → Prop} {l' : List Ex}, Lies w B' v l' → l = l' := by
 induction h with
 | nil => intro B' l' h'; cases h'; rfl
 | row b n c cur xs V hB hb hn hc hl ih =>
  intro B' l' h'
  cases h' with
  | row _ _ _ cur' _ V' hB' hb' hn' hc' hl' =>
   rw [hb] at hb'
   simp only [Option.some.injEq, Obj.cells.injEq, and_true] at hb'
   subst hb'
   refine List.ext_getElem (by omega) fun i h1 h2 => ?_
   have a1 := hc i h1
   have a2 := hc' i h2
   rw [a1.1, a1.2.1, a1.2.2] at a2
   simp only [Option.some.injEq, Value.int.injEq, true_and] at a2
   exact Ex.ext' (by omega) a2.2.1 (ih i h1 (a2.2.2 ▸ hl' i h2))
theorem At.det {w : World} {B B' : Nat → Prop} {b o : Nat} {x y : Ex} (h : At w B b o x) (h' : At w B' b o y) : x = y := by
 obtain ⟨cur, v, h1, h2, h3, h4, h5, h6⟩ := h
 obtain ⟨cur', v', k1, k2, k3, k4, k5, k6⟩ := h'
 rw [h2] at k2
 simp only [Option.some.injEq, Obj.cells.injEq, and_true] at k2
 subst k2
 rw [h3] at k3; rw [h4] at k4; rw [h5] at k5
 simp only [Option.some.injEq, Value.int.injEq, true_and] at k3 k4 k5
 subst k5
 exact Ex.ext' (by omega) k4 (h6.det k6)
theorem fitsB_iff (o : Nat) (n : Int) (m : Nat) : fitsB o n m = true ↔ 0 ≤ n ∧ (0 < n → o = 1) ∧ ((1 ≤ o ∧ o ≤ 4 ∧ m = 0) ∨ ((o = 5 ∨ o = 6) ∧ m = 1) ∨ (o = 18 ∧ m = 3) ∨ (7 ≤ o ∧ o ≤ 17 ∧ m = 2)) := by
 unfold fitsB
 split
 · simp; omega
 split
 · simp; omega
 split
 · simp; omega
 split
 · simp; omega
 · simp; omega
theorem fits_cells {w : World} {b o op m c : Nat} {n : Int} {a : Option Addr} (h0 : w.cell? ⟨b, o, none⟩ = some (.int .u8 (op : Int))) (h1 : w.cell? ⟨b, o + 1, none⟩ = some (.int .i64 n)) (h2 : w.cell? ⟨b, o + 2, none⟩ = some (.slice a m c)) :
  Calls Tryz.prog 218 #[.pointer (some ⟨b, o, none⟩)] w fun e w' => e = .returned (.bool (fitsB op n m)) ∧ w = w' := by
 go_enter Tryz.func218, Tryz.ntmps218
 go_wp2
 all_goals (go_ret; refine ⟨ret_bool ?_, rfl⟩; clear h0 h1 h2; go_light; rw [Bool.eq_iff_iff, fitsB_iff]; simp only [beq_iff_eq, bne_iff_ne, beq_eq_false_iff_ne, bne_eq_false_iff_eq, ne_eq, Bool.false_eq_true, iff_false, false_iff] at *; omega)
theorem fits_at {w : World} {B : Nat → Prop} {b o : Nat} {x : Ex} (h : At w B b o x) : Calls Tryz.prog 218 #[.pointer (some ⟨b, o, none⟩)] w fun e w' => e = .returned (.bool (fitsB x.op x.n x.args.length)) ∧ w = w' := by
 obtain ⟨a, c, h0, h1, h2, _⟩ := h.cells
 exact fits_cells h0 h1 h2
theorem may1_at {w : World} {B : Nat → Prop} {b o d : Nat} {x : Ex} (h : At w B b o x) : Calls Tryz.prog 217 #[.pointer (some ⟨b, o, none⟩), .int .i64 d] w fun e w' => e = .returned (.bool (FM x.op x.n x.args.length d)) ∧ w = w' := by
 have HF := Lib.hid (fits_at h)
 by_cases hd : d ≤ 16
 · have hd' : (d : Int) ≤ 16 := by omega
   go_enter Tryz.func217, Tryz.ntmps217
   go_wp2_with fail
   refine HF.out.mono ?_
   rintro e w' ⟨rfl, rfl⟩
   go_wp2_with fail
   go_ret
   exact ⟨ret_bool (by unfold FM; simp [hd]), rfl⟩
 · have hd' : ¬ (d : Int) ≤ 16 := by omega
   go_enter Tryz.func217, Tryz.ntmps217
   go_wp2_with fail
   go_ret
   exact ⟨ret_bool (by unfold FM; simp [hd]), rfl⟩
def Dp (w : World) (bd : Nat) (D : Nat) : Prop := w.heap[bd]? = some (.cells #[.int .i64 (D : Int)] 3 (0, 0))
theorem deep1_at {w : World} {bd D d : Nat} (h : Dp w bd D) (hD : D ≤ 1000) (hd : d ≤ 1000) (p : Value) : Calls Tryz.prog 195 #[p, .int .i64 d, .pointer (some ⟨bd, 0, none⟩)] w fun e w' =>
  e = .returned (.bool (decide (d ≤ 16))) ∧ w.setCell ⟨bd, 0, none⟩ (.int .i64 ((max D d : Nat) : Int)) = w' := by
 have hc : w.cell? ⟨bd, 0, none⟩ = some (.int .i64 (D : Int)) := cell_of h rfl
 have hf : w.frozen? ⟨bd, 0, none⟩ = false := by simp [World.frozen?, show w.heap[bd]? = _ from h]
 have hm : ((max D d : Nat) : Int) = max (D : Int) (d : Int) := by omega
 go_enter Tryz.func195, Tryz.ntmps195
 go_wp2
 all_goals (go_ret; exact ⟨ret_bool (by simp; omega), by congr 2; omega⟩)
end Go.Proofs.YtepdecnegihhhaaGreatDoor.exp
end
section
namespace Go.Proofs.YtepdecnegihhhaaGreatDoor.exp
open Go.RowKit nam
open Go.ChangeMaps (setBlock heap_setBlock_same heap_setBlock_other)
structure Only (F : Nat → Prop) (w w' : World) : Prop where
 os : w'.os = w.os
 tape : w'.tape = w.tape
 output : w'.output = w.output
 size : w.heap.size ≤ w'.heap.size
 block : ∀ k, k < w.heap.size → ¬ F k → w'.heap[k]? = w.heap[k]?
theorem Only.refl (F : Nat → Prop) (w : World) : Only F w w := ⟨rfl, rfl, rfl, Nat.le_refl _, fun _ _ _ => rfl⟩
theorem Only.mono {F G : Nat → Prop} {w w' : World} (h : Only F w w') (hF : ∀ k, F k → G k) : Only G w w' := ⟨h.os, h.tape, h.output, h.size, fun k hk hn => h.block k hk fun hf => hn (hF k hf)⟩
theorem Only.then {F : Nat → Prop} {a b c : World} (h : Only F a b) (k : Only F b c) : Only F a c :=
 ⟨k.os.trans h.os, k.tape.trans h.tape, k.output.trans h.output, Nat.le_trans h.size k.size, fun i hi hn => (k.block i (Nat.lt_of_lt_of_le hi h.size) hn).trans (h.block i hi hn)⟩
theorem Only.of_below {F : Nat → Prop} {w w' : World} (h : Below w.heap.size w w') : Only F w w' := ⟨h.os, h.tape, h.output, h.size, fun k hk _ => h.block k hk⟩
theorem Only.below {F : Nat → Prop} {w w' : World} {B : Nat} (h : Only F w w') (hB : B ≤ w.heap.size) (hF : ∀ k, F k → B ≤ k) : Below B w w' :=
 ⟨h.os, h.tape, h.output, h.size, fun k hk => h.block k (by omega) fun hf => by have := hF k hf; omega⟩
theorem Only.setCell {F : Nat → Prop} (w : World) (b o : Nat) (v : Value) (hb : F b) : Only F w (w.setCell ⟨b, o, none⟩ v) :=
 ⟨rfl, rfl, rfl, by simp, fun k _ hk => Below.heap_setCell w _ v k (fun e => hk (e ▸ hb))⟩
theorem Only.drew {F : Nat → Prop} {w w' : World} (h : Only F w w') : Only F w w'.drew := ⟨h.os, h.tape, h.output, h.size, h.block⟩
theorem Only.of_drew {F : Nat → Prop} {w w' : World} (h : Only F w.drew w') : Only F w w' := ⟨h.os, h.tape, h.output, h.size, h.block⟩
theorem Only.setBlock {F : Nat → Prop} {w : World} {b : Nat} {es : Array MapEntry} {clock : Nat} (hb : w.heap[b]? = some (.map es clock)) (o : Obj) (hF : F b) : Only F w (setBlock w b o) :=
 ⟨rfl, rfl, rfl, by simp [ChangeMaps.setBlock], fun k _ hk => heap_setBlock_other hb _ (fun e => hk (e ▸ hF))⟩
def Tr (W w : World) : Prop := ∀ (b : Nat) (c : Array Value), W.heap[b]? = some (.cells c 46 (0, 0)) → w.heap[b]? = W.heap[b]?
theorem Tr.at {W w : World} (h : Tr W w) {B : Nat → Prop} {b o : Nat} {x : Ex} (ha : At W B b o x) : At w B b o x := ha.frame fun b c _ hb => h b c hb
theorem Tr.only {W w w' : World} {F : Nat → Prop} (h : Tr W w) (ho : Only F w w') (hF : ∀ k, F k → ∀ c, W.heap[k]? ≠ some (.cells c 46 (0, 0))) : Tr W w' := fun b c hb => by
 have h1 := h b c hb
 rw [← h1]
 exact ho.block b (Array.getElem?_eq_some_iff.1 (h1.trans hb)).1 fun hf => hF b hf c hb
def GA (W : World) (a : Addr) : Prop := ∃ c, W.heap[a.block]? = some (.cells c 46 (0, 0))
theorem keyG {W w : World} (h : Tr W w) : KeyT Tryz.prog w kA (GA W) 161 where
 under := (keyA w).under
 inj := (keyA w).inj
 eq a b ha hb := by
  obtain ⟨c, ha⟩ := ha
  obtain ⟨c', hb⟩ := hb
  exact (keyA w).eq a b ⟨c, 46, (h _ _ ha).trans ha⟩ ⟨c', 46, (h _ _ hb).trans hb⟩
 check := (keyA w).check
 stays := (keyA w).stays
def ptr (b : Nat) : Value := .pointer (some ⟨b, 0, none⟩)
def fK : Option Nat → Nat
 | none => 217
 | some _ => 195
def fC : Option Nat → Array Value
 | none => #[]
 | some b => #[ptr b]
def fF : Option Nat → Nat → Int → Nat → Nat → Bool
 | none => FM
 | some _ => FD
theorem falls_fF (md : Option Nat) : Falls (fF md) := by cases md; exact falls_FM; exact falls_FD
theorem fF_16 {md : Option Nat} {o m d : Nat} {n : Int} (h : fF md o n m d = true) : d ≤ 16 := by
 cases md <;> simp [fF, FM, FD] at h <;> omega
theorem fF_no {md : Option Nat} {o m d : Nat} {n : Int} (h : fF md o n m d = false) (hm : md ≠ none) : 17 ≤ d := by
 cases md with
 | none => exact absurd rfl hm
 | some b => simp [fF, FD] at h; omega
def Moves (md : Option Nat) (mb k : Nat) : Prop := k = mb ∨ md = some k
structure Ov (W : World) (md : Option Nat) (mb bm bf bi : Nat) (w : World) (m : Addr → Option Int) (D : Nat) : Prop where
 tr : Tr W w
 mp : PM kA vI (GA W) w mb m
 b1 : w.heap[bm]? = some (.cells #[.map (some mb)] 292 (0, 0))
 b2 : w.heap[bf]? = some (.cells #[.func (.func (fK md)) #[] (fC md)] 268 (0, 0))
 b3 : w.heap[bi]? = some (.cells #[.func (.func 216) #[] #[ptr bm, ptr bf, ptr bi]] 268 (0, 0))
 st : ∀ bd, md = some bd → Dp w bd D
 hD : D ≤ 17
theorem Ov.drew {W : World} {md : Option Nat} {mb bm bf bi : Nat} {w : World} {m : Addr → Option Int} {D : Nat} (h : Ov W md mb bm bf bi w m D) : Ov W md mb bm bf bi w.drew m D :=
 ⟨h.tr, h.mp.kept rfl, h.b1, h.b2, h.b3, h.st, h.hD⟩
theorem Ov.moves {W : World} {md : Option Nat} {mb bm bf bi : Nat} {w : World} {m : Addr → Option Int} {D : Nat} (h : Ov W md mb bm bf bi w m D) {k : Nat} (hk : Moves md mb k) (c : Array Value) : W.heap[k]? ≠ some (.cells c 46 (0, 0)) := fun e => by
 have e2 := (h.tr k c e).trans e
 rcases hk with rfl | hk
 · obtain ⟨es, clock, h1, _⟩ := h.mp.is
   rw [h1] at e2
   cases e2
 · have h1 := h.st k hk
   unfold Dp at h1
   rw [h1] at e2
   simp at e2
theorem ask_at {W : World} {md : Option Nat} {mb bm bf bi : Nat} {w : World} {m : Addr → Option Int} {D : Nat} (h : Ov W md mb bm bf bi w m D) {B : Nat → Prop} {b o d : Nat} {x : Ex} (ha : At W B b o x) (hd : d ≤ 17) :
  Calls Tryz.prog (fK md) (#[.pointer (some ⟨b, o, none⟩), .int .i64 (d : Int)] ++ fC md) w fun e w' => e = .returned (.bool (fF md x.op x.n x.args.length d)) ∧ Ov W md mb bm bf bi w' m (max D d) ∧ Only (Moves md mb) w w' := by
 cases hmd : md with
 | none =>
  subst hmd
  refine (may1_at (h.tr.at ha)).mono ?_
  rintro e w' ⟨rfl, rfl⟩
  exact ⟨rfl, ⟨h.tr, h.mp, h.b1, h.b2, h.b3, fun bd hb => (by cases hb), by have := h.hD; omega⟩, Only.refl _ _⟩
 | some bd =>
  subst hmd
  have hD := h.hD
  refine (deep1_at (h.st bd rfl) (by omega) (by omega) _).mono ?_
  rintro e w' ⟨rfl, rfl⟩
  have ho : Only (Moves (some bd) mb) w (w.setCell ⟨bd, 0, none⟩ (.int .i64 ((max D d : Nat) : Int))) := Only.setCell _ _ _ _ (.inr rfl)
  have hst : w.heap[bd]? = some (.cells #[.int .i64 (D : Int)] 3 (0, 0)) := h.st bd rfl
  have ne : ∀ {k : Nat} {o : Obj}, w.heap[k]? = some o → o ≠ .cells #[.int .i64 (D : Int)] 3 (0, 0) → k ≠ bd := fun {k o} hk hne e => by
   subst e; rw [hst] at hk; exact hne (Option.some.inj hk).symm
  have st : ∀ {k : Nat} {o : Obj}, w.heap[k]? = some o → o ≠ .cells #[.int .i64 (D : Int)] 3 (0, 0) → (w.setCell ⟨bd, 0, none⟩ (.int .i64 ((max D d : Nat) : Int))).heap[k]? = w.heap[k]? := fun {k o} hk hne => Below.heap_setCell w _ _ k (ne hk hne)
  refine ⟨rfl, ⟨h.tr.only ho fun k hk c => h.moves hk c, h.mp.kept ?_, (st h.b1 (by simp)).trans h.b1, (st h.b2 (by simp)).trans h.b2, (st h.b3 (by simp)).trans h.b3, ?_, by omega⟩, ho⟩
  · obtain ⟨es, clock, h1, _⟩ := h.mp.is
    exact st h1 (by simp)
  · intro bd' hb
    cases hb
    exact (heap_setCell_same w bd 0 _ 3 _ hst)
def Inv (W : World) (F : Nat → Int → Nat → Nat → Bool) (m : Addr → Option Int) (s D : Nat) : Prop :=
 ∀ q v, m q = some v → ∃ (dq : Nat) (y : Ex), v = (dq : Int) ∧ 1 ≤ dq ∧ dq ≤ 17 ∧ q.spot = none ∧ At W Any q.block q.off y ∧ (y.size ≤ s → good F y dq = true ∧ dq - 1 + y.dep ≤ D)
def New (W : World) (F : Nat → Int → Nat → Nat → Bool) (m m' : Addr → Option Int) (s D : Nat) : Prop :=
 ∀ q v, m' q = some v → m q = some v ∨ ∃ (dq : Nat) (y : Ex), v = (dq : Int) ∧ 1 ≤ dq ∧ dq ≤ 17 ∧ q.spot = none ∧ At W Any q.block q.off y ∧ y.size ≤ s ∧ good F y dq = true ∧ dq - 1 + y.dep ≤ D
theorem New.refl (W : World) (F : Nat → Int → Nat → Nat → Bool) (m : Addr → Option Int) (s D : Nat) : New W F m m s D := fun q v h => .inl h
end Go.Proofs.YtepdecnegihhhaaGreatDoor.exp
end
section
namespace Go.Proofs.YtepdecnegihhhaaGreatDoor.exp
open Go.RowKit nam
open Go.ChangeMaps (setBlock heap_setBlock_same heap_setBlock_other)
def IPost (W : World) (md : Option Nat) (mb bm bf bi : Nat) (w : World) (m : Addr → Option Int) (D : Nat) (x : Ex) (d : Nat) (e : Ending) (w' : World) : Prop :=
 ∃ m' D', e = .returned (.bool (good (fF md) x d)) ∧ Ov W md mb bm bf bi w' m' D' ∧ Only (Moves md mb) w w' ∧
  (good (fF md) x d = true → New W (fF md) m m' x.size D' ∧ D' = max D (d - 1 + x.dep)) ∧ (good (fF md) x d = false → md ≠ none → D' = 17)
theorem into_met {W : World} {md : Option Nat} {mb bm bf bi : Nat} {w : World} {m : Addr → Option Int} {D : Nat} (h : Ov W md mb bm bf bi w m D) {b o d : Nat} {x : Ex} (ha : At W Any b o x) (hd : 1 ≤ d) (hd' : d ≤ 17)
  (hi : Inv W (fF md) m x.size D) {v : Int} (hm : m ⟨b, o, none⟩ = some v) (hv : (d : Int) ≤ v) :
  Calls Tryz.prog 216 #[.pointer (some ⟨b, o, none⟩), .int .i64 (d : Int), ptr bm, ptr bf, ptr bi] w (IPost W md mb bm bf bi w m D x d) := by
 have cm : w.cell? ⟨bm, 0, none⟩ = some (.map (some mb)) := cell_of h.b1 rfl
 obtain ⟨cur, hcur⟩ : ∃ c, W.heap[b]? = some (.cells c 46 (0, 0)) := by obtain ⟨cur, v, _, h2, _⟩ := ha; exact ⟨cur, h2⟩
 have hl := h.mp.look (keyG h.tr) (a := ⟨b, o, none⟩) ⟨cur, hcur⟩ Tryz.underlying292 (z := .int .i64 0) (by kernel_rfl) false
 rw [hm] at hl
 simp only [Option.elim, vI, kA, Bool.false_eq_true, if_false] at hl
 have HP : Hid (IPost W md mb bm bf bi w m D x d (.returned (.bool true)) w) := Lib.hid (by
  obtain ⟨dq, y, h1, h2, h3, h4, h5, h6⟩ := hi _ _ hm
  have hxy := h5.det ha
  subst hxy
  obtain ⟨h7, h8⟩ := h6 (Nat.le_refl _)
  have hg : good (fF md) y d = true := good_falls (falls_fF md) y d dq (by omega) h7
  exact ⟨m, D, by rw [hg], h, Only.refl _ _, fun _ => ⟨New.refl _ _ _ _ _, by omega⟩, fun hf => by rw [hg] at hf; cases hf⟩)
 clear h ha hi hm hcur
 unfold ptr at *
 go_enter Tryz.func216, Tryz.ntmps216
 go_wp2_with fail
 go_ret
 exact HP.out
structure Rnd (W : World) (md : Option Nat) (mb bm bf bi : Nat) (w : World) (m : Addr → Option Int) (D : Nat) (x : Ex) (b o d : Nat) (k : Nat) (wr : World) (mr : Addr → Option Int) (Dr : Nat) : Prop where
 ov : Ov W md mb bm bf bi wr mr Dr
 only : Only (Moves md mb) w wr
 gs : goods (fF md) (x.args.take k) (d + 1) = true
 deep : Dr = max (max D d) (d + deps (x.args.take k))
 new : ∀ q v, mr q = some v → m q = some v ∨ (q = ⟨b, o, none⟩ ∧ v = (d : Int)) ∨ ∃ (dq : Nat) (y : Ex), v = (dq : Int) ∧ 1 ≤ dq ∧ dq ≤ 17 ∧ q.spot = none ∧ At W Any q.block q.off y ∧ y.size < x.size ∧ good (fF md) y dq = true ∧ dq - 1 + y.dep ≤ Dr
theorem Rnd.inv {W : World} {md : Option Nat} {mb bm bf bi : Nat} {w : World} {m : Addr → Option Int} {D : Nat} {x : Ex} {b o d k : Nat} {wr : World} {mr : Addr → Option Int} {Dr : Nat} (h : Rnd W md mb bm bf bi w m D x b o d k wr mr Dr)
  (hi : Inv W (fF md) m x.size D) (ha : At W Any b o x) (hd : 1 ≤ d) (hd' : d ≤ 17) {y : Ex} (hy : y.size < x.size) : Inv W (fF md) mr y.size Dr := fun q v hq => by
 have hDr := h.deep
 rcases h.new q v hq with h1 | ⟨rfl, rfl⟩ | ⟨dq, z, h1, h2, h3, h4, h5, h6, h7, h8⟩
 · obtain ⟨dq, z, k1, k2, k3, k4, k5, k6⟩ := hi q v h1
   exact ⟨dq, z, k1, k2, k3, k4, k5, fun hs => ⟨(k6 (by omega)).1, by have := (k6 (by omega)).2; omega⟩⟩
 · exact ⟨d, x, rfl, hd, hd', rfl, ha, fun hs => by omega⟩
 · exact ⟨dq, z, h1, h2, h3, h4, h5, fun _ => ⟨h7, h8⟩⟩
theorem Rnd.next {W : World} {md : Option Nat} {mb bm bf bi : Nat} {w : World} {m : Addr → Option Int} {D : Nat} {x : Ex} {b o d k : Nat} {wr : World} {mr : Addr → Option Int} {Dr : Nat} (h : Rnd W md mb bm bf bi w m D x b o d k wr mr Dr)
  (hk : k < x.args.length) {w' : World} {m' : Addr → Option Int} {D' : Nat} (ho : Ov W md mb bm bf bi w' m' D') (hy : Only (Moves md mb) wr w') (hg : good (fF md) x.args[k] (d + 1) = true)
  (hn : New W (fF md) mr m' x.args[k].size D') (hD : D' = max Dr (d + 1 - 1 + x.args[k].dep)) : Rnd W md mb bm bf bi w m D x b o d (k + 1) w' m' D' := by
 have hsz : x.args[k].size < x.size := size_arg (List.getElem_mem hk)
 have hDr := h.deep
 refine ⟨ho, h.only.then hy, goods_take hk h.gs hg, ?_, fun q v hq => ?_⟩
 · rw [hD, hDr, deps_take hk]; omega
 · rcases hn q v hq with h1 | ⟨dq, z, h1, h2, h3, h4, h5, h6, h7, h8⟩
   · rcases h.new q v h1 with h2 | h2 | ⟨dq, z, h1, h2, h3, h4, h5, h6, h7, h8⟩
     · exact .inl h2
     · exact .inr (.inl h2)
     · exact .inr (.inr ⟨dq, z, h1, h2, h3, h4, h5, h6, h7, by omega⟩)
   · exact .inr (.inr ⟨dq, z, h1, h2, h3, h4, h5, by omega, h7, h8⟩)
theorem Rnd.post {W : World} {md : Option Nat} {mb bm bf bi : Nat} {w : World} {m : Addr → Option Int} {D : Nat} {x : Ex} {b o d k : Nat} {wr : World} {mr : Addr → Option Int} {Dr : Nat} (h : Rnd W md mb bm bf bi w m D x b o d k wr mr Dr)
  (hk : k = x.args.length) (ha : At W Any b o x) (hd : 1 ≤ d) (hd' : d ≤ 17) (hF : fF md x.op x.n x.args.length d = true) : IPost W md mb bm bf bi w m D x d (.returned (.bool true)) wr := by
 subst hk
 have hgs := h.gs
 have hDr := h.deep
 rw [List.take_length] at hgs hDr
 have hg : good (fF md) x d = true := by rw [good_eq, hF, hgs]; rfl
 have hdep := dep_eq x
 refine ⟨mr, Dr, by rw [hg], h.ov, h.only, fun _ => ⟨fun q v hq => ?_, by omega⟩, fun hf => by rw [hg] at hf; cases hf⟩
 rcases h.new q v hq with h1 | ⟨rfl, rfl⟩ | ⟨dq, z, h1, h2, h3, h4, h5, h6, h7, h8⟩
 · exact .inl h1
 · exact .inr ⟨d, x, rfl, hd, hd', rfl, ha, Nat.le_refl _, hg, by omega⟩
 · exact .inr ⟨dq, z, h1, h2, h3, h4, h5, by omega, h7, h8⟩
theorem Rnd.bad {W : World} {md : Option Nat} {mb bm bf bi : Nat} {w : World} {m : Addr → Option Int} {D : Nat} {x : Ex} {b o d k : Nat} {wr : World} {mr : Addr → Option Int} {Dr : Nat} (h : Rnd W md mb bm bf bi w m D x b o d k wr mr Dr)
  (hk : k < x.args.length) {w' : World} {m' : Addr → Option Int} {D' : Nat} (ho : Ov W md mb bm bf bi w' m' D') (hy : Only (Moves md mb) wr w') (hg : good (fF md) x.args[k] (d + 1) = false) (hD : md ≠ none → D' = 17) :
  IPost W md mb bm bf bi w m D x d (.returned (.bool false)) w' := by
 have hb : good (fF md) x d = false := by
  rw [good_eq]
  have : goods (fF md) x.args (d + 1) = false := by
   rw [Bool.eq_false_iff]
   intro h1
   have := goods_mem.1 h1 _ (List.getElem_mem hk)
   rw [hg] at this
   cases this
  rw [this, Bool.and_false]
 exact ⟨m', D', by rw [hb], ho, h.only.then hy, fun hf => (by rw [hb] at hf; cases hf), fun _ => hD⟩
theorem enters_fK (md : Option Nat) : ∀ args w, (callFunc (fK md) args).run Tryz.prog w = .ok (.enter (fK md) args) w := by
 cases md with
 | none => exact enters_of Tryz.func217 (by kernel_rfl) rfl
 | some b => exact enters_of Tryz.func195 (by kernel_rfl) rfl
set_option maxHeartbeats 1600000 in
set_option maxRecDepth 1000000 in
theorem into_any (W : World) (md : Option Nat) (mb bm bf bi : Nat) : ∀ (s : Nat), s ≤ 1000000 → ∀ (x : Ex), x.size ≤ s → ∀ (w : World) (m : Addr → Option Int) (D b o d : Nat), Ov W md mb bm bf bi w m D → At W Any b o x → 1 ≤ d → d ≤ 17 → Inv W (fF md) m x.size D →
  Calls Tryz.prog 216 #[.pointer (some ⟨b, o, none⟩), .int .i64 (d : Int), ptr bm, ptr bf, ptr bi] w (IPost W md mb bm bf bi w m D x d) := by
 intro s
 induction s with
 | zero => intro _ x hx; have := size_pos x; omega
 | succ s ih =>
  intro hs x hx w m D b o d h ha hd hd' hi
  obtain ⟨v, hv⟩ : ∃ v : Int, ((m ⟨b, o, none⟩).elim (.int .i64 0) vI) = .int .i64 v ∧ (v = 0 ∨ m ⟨b, o, none⟩ = some v) := by
   cases hm : m ⟨b, o, none⟩ with
   | none => exact ⟨0, rfl, .inl rfl⟩
   | some v => exact ⟨v, rfl, .inr rfl⟩
  by_cases hdv : (d : Int) ≤ v
  · rcases hv.2 with h0 | h0
    · omega
    · exact into_met h ha hd hd' hi h0 hdv
  have cm : w.cell? ⟨bm, 0, none⟩ = some (.map (some mb)) := cell_of h.b1 rfl
  have hGA : GA W ⟨b, o, none⟩ := by obtain ⟨cur, v, _, h2, _⟩ := ha; exact ⟨cur, h2⟩
  have hl := h.mp.look (keyG h.tr) (a := ⟨b, o, none⟩) hGA Tryz.underlying292 (z := .int .i64 0) (by kernel_rfl) false
  rw [hv.1] at hl
  simp only [kA, Bool.false_eq_true, if_false] at hl
  obtain ⟨ob, hst, hpm, es, clock, hmb⟩ := h.mp.store (keyG h.tr) (a := ⟨b, o, none⟩) hGA Tryz.underlying292 (d : Int)
  simp only [vI, kA] at hst
  have hOn : Only (Moves md mb) w (setBlock w mb ob) := Only.setBlock hmb _ (.inl rfl)
  have hov : Ov W md mb bm bf bi (setBlock w mb ob) (upd m ⟨b, o, none⟩ (d : Int)) D := by
   have st : ∀ {k : Nat} {c : Array Value} {t : TypeId} {fr : Nat × Nat}, w.heap[k]? = some (.cells c t fr) → (setBlock w mb ob).heap[k]? = some (.cells c t fr) := fun {k c t fr} hk =>
    (heap_setBlock_other hmb ob (fun e => by subst e; rw [hmb] at hk; cases hk)).trans hk
   exact ⟨h.tr.only hOn fun k hk c => h.moves hk c, hpm, st h.b1, st h.b2, st h.b3, fun bd hb => st (h.st bd hb), h.hD⟩
  generalize setBlock w mb ob = w1 at hst hOn hov
  have cf : w1.cell? ⟨bf, 0, none⟩ = some (.func (.func (fK md)) #[] (fC md)) := cell_of hov.b2 rfl
  have hent := enters_fK md
  have HASK := Lib.hid (ask_at hov ha hd')
  have HOV := Lib.hid hov; have HON := Lib.hid hOn
  have HH := Lib.hid h; have HA := Lib.hid ha; have HI := Lib.hid hi
  clear h ha hi hov hOn hpm hGA hmb hv
  unfold ptr
  cases hF : fF md x.op x.n x.args.length d with
  | false =>
   have HF := Lib.hid hF; clear hF
   go_enter Tryz.func216, Tryz.ntmps216
   go_wp2_with fail
   refine HASK.out.mono ?_
   rintro e w2 ⟨rfl, hov2, hon2⟩
   rw [HF.out]
   have HOV2 := Lib.hid hov2; have HON2 := Lib.hid hon2; clear hov2 hon2
   go_wp2_with fail
   go_ret
   have hb : good (fF md) x d = false := by rw [good_eq, HF.out]; rfl
   exact ⟨_, _, by rw [hb]; rfl, HOV2.out, HON.out.then HON2.out, fun hf => (by rw [hb] at hf; cases hf), fun _ hm => by have := fF_no HF.out hm; have := HOV2.out.hD; omega⟩
  | true =>
   have HF := Lib.hid hF; clear hF
   obtain ⟨cur, va, _, hcur, g0, g1, g2, hlies⟩ := HA.out
   obtain ⟨a, c, rfl, hch⟩ := hlies.form
   have HCH := Lib.hid hch; have HCUR := Lib.hid hcur; clear hch hcur hlies g0 g1
   go_enter Tryz.func216, Tryz.ntmps216
   go_wp2_with fail
   refine HASK.out.mono ?_
   rintro e w2 ⟨rfl, hov2, hon2⟩
   rw [HF.out]
   have HOV2 := Lib.hid hov2; have HON2 := Lib.hid (HON.out.then hon2); clear hov2 hon2
   have k2 : w2.cell? ⟨b, o + 2, none⟩ = some (.slice a x.args.length c) := cell_of ((HOV2.out.tr b cur HCUR.out).trans HCUR.out) g2
   go_wp2_with fail
   go_loopg [27] x.args.length (fun g v27 wr => ∃ (k : Nat) (mr : Addr → Option Int) (Dr : Nat), k + g = x.args.length ∧ v27 = .int .i64 (k : Int) ∧ Rnd W md mb bm bf bi w m D x b o d k wr mr Dr)
   case atStart =>
    refine ⟨0, _, _, by omega, rfl, HOV2.out, HON2.out, by simp [goods_nil], by simp [deps_nil], fun q v hq => ?_⟩
    by_cases hqp : q = ⟨b, o, none⟩
    · subst hqp
      rw [upd_same] at hq
      exact .inr (.inl ⟨rfl, (Option.some.inj hq).symm⟩)
    · rw [upd_other _ _ hqp] at hq
      exact .inl hq
   case round =>
    rename World => wr
    obtain ⟨k, mr, Dr, hk, rfl, hrel⟩ := hrel
    have HR := Lib.hid hrel; clear hrel
    by_cases hk' : k < x.args.length
    · obtain ⟨b', rfl, hel⟩ := HCH.out (by omega)
      have HAK := Lib.hid (hel k hk'); clear hel
      have hcn := size_arg (List.getElem_mem hk')
      have hlen : x.args.length < x.size := by rw [size_eq x]; have := sizes_len x.args; omega
      have hkn : (k : Int) < (x.args.length : Int) := by omega
      have s2 : wr.cell? ⟨b, o + 2, none⟩ = some (.slice (some ⟨b', 0, none⟩) x.args.length c) := cell_of ((HR.out.ov.tr b cur HCUR.out).trans HCUR.out) g2
      have si : wr.cell? ⟨bi, 0, none⟩ = some (.func (.func 216) #[] #[ptr bm, ptr bf, ptr bi]) := cell_of HR.out.ov.b3 rfl
      have hd16 := fF_16 HF.out
      have HC := Lib.hid (ih (by omega) x.args[k] (by omega) wr.drew mr Dr b' (k * 3) (d + 1) HR.out.ov.drew HAK.out (by omega) (by omega) (HR.out.inv HI.out HA.out hd hd' hcn))
      have hw1 : IntKind.i64.wrap ((d : Int) + 1) = ((d + 1 : Nat) : Int) := by
       have : ((d : Int) + 1) = ((d + 1 : Nat) : Int) := by omega
       rw [this]
       exact IntWalk.i64_in _ ⟨by omega, by omega⟩
      unfold ptr at HC si
      obtain ⟨bg, hbg⟩ : ∃ bg, good (fF md) x.args[k] (d + 1) = bg := ⟨_, rfl⟩
      have HBG := Lib.hid hbg
      rw [show IPost W md mb bm bf bi wr.drew mr Dr x.args[k] (d + 1) = fun e w' => ∃ m' D', e = .returned (.bool bg) ∧ Ov W md mb bm bf bi w' m' D' ∧ Only (Moves md mb) wr.drew w' ∧ (bg = true → New W (fF md) mr m' x.args[k].size D' ∧ D' = max Dr (d + 1 - 1 + x.args[k].dep)) ∧ (bg = false → md ≠ none → D' = 17) by rw [← hbg]; rfl] at HC
      clear hbg
      go_upto_region 9 with fail
      go_cut [40] (fun t w3 => t = .bool (!bg) ∧ ∃ m3 D3, Ov W md mb bm bf bi w3 m3 D3 ∧ Only (Moves md mb) wr w3 ∧ (bg = true → New W (fF md) mr m3 x.args[k].size D3 ∧ D3 = max Dr (d + 1 - 1 + x.args[k].dep)) ∧ (bg = false → md ≠ none → D3 = 17))
      case first =>
       go_region_with (go_at_call 216; (refine HC.out.mono ?_); rintro e w3 ⟨m3, D3, rfl, hov3, hon3, ht3, hf3⟩)
       all_goals (have HX := Lib.hid (And.intro hov3 (And.intro hon3 (And.intro ht3 hf3))); clear hov3 hon3 ht3 hf3; go_wp2_with fail; go_meet; exact ⟨rfl, m3, D3, HX.out.1, HX.out.2.1.of_drew, HX.out.2.2.1, HX.out.2.2.2⟩)
      case rest =>
       rename World => w4
       obtain ⟨rfl, m3, D3, hov3, hon3, ht3, hf3⟩ := hcut
       cases bg with
       | true =>
        obtain ⟨hn3, hD3⟩ := ht3 rfl
        have HN : Hid (Rnd W md mb bm bf bi w m D x b o d (k + 1) w4 m3 D3) := Lib.hid (HR.out.next hk' hov3 hon3 HBG.out hn3 hD3)
        clear ht3 hf3 hov3 hon3 hn3 hD3
        go_wp2_with fail
        go_roundg (gk - 1)
        case measure => omega
        case rel => exact ⟨k + 1, m3, D3, by omega, by go_num, HN.out⟩
       | false =>
        have HB : Hid (IPost W md mb bm bf bi w m D x d (.returned (.bool false)) w4) := Lib.hid (HR.out.bad hk' hov3 hon3 HBG.out (hf3 rfl))
        clear ht3 hf3 hov3 hon3
        go_wp2_with fail
        try rw [Exit.noGoto_ret]
        go_ret
        exact HB.out
    · have HP := Lib.hid (HR.out.post (by omega) HA.out hd hd' HF.out)
      have hkn : (x.args.length : Int) ≤ (k : Int) := by omega
      go_wp2_with fail
      try rw [Exit.noGoto_ret]
      go_ret
      exact HP.out
end Go.Proofs.YtepdecnegihhhaaGreatDoor.exp
end
section
namespace Go.Proofs.YtepdecnegihhhaaGreatDoor.exp
open Go.RowKit nam
open Go.ChangeMaps (setBlock heap_setBlock_same heap_setBlock_other)
def exV (x : Ex) (v : Value) : Value := .agg #[.int .u8 (x.op : Int), .int .i64 x.n, v]
def OPost (md : Option Nat) (x : Ex) (w : World) (e : Ending) (w' : World) : Prop :=
 ∃ D', e = .returned (.bool (good (fF md) x 1)) ∧ (∀ bd, md = some bd → Dp w' bd D') ∧ Only (fun k => md = some k) w w' ∧ (good (fF md) x 1 = true → D' = x.dep) ∧ (good (fF md) x 1 = false → md ≠ none → D' = 17)
theorem heap_last {w : World} {o : Obj} {n : Nat} (hn : n = w.heap.size) : (w.alloc o).heap[n]? = some o := by subst hn; exact heap_alloc_new w o
theorem heap_old {w : World} {o x : Obj} {n : Nat} (h : w.heap[n]? = some x) : (w.alloc o).heap[n]? = some x := (Below.heap_alloc w o n (Array.getElem?_eq_some_iff.1 h).1).trans h
theorem heap_set {w : World} {b o n : Nat} {x : Obj} {u : Value} (h : w.heap[n]? = some x) (hb : n ≠ b) : (w.setCell ⟨b, o, none⟩ u).heap[n]? = some x := (Below.heap_setCell w ⟨b, o, none⟩ u n hb).trans h
theorem over_post {md : Option Nat} {x : Ex} {w W W6 w' : World} {N bm bf bi D' : Nat} {m' : Addr → Option Int} (ho : Only (fun k => md = some k) w W6) (hN : w.heap.size = N) (hov : Ov W md (N + 1 + 1) bm bf bi w' m' D') (hon : Only (Moves md (N + 1 + 1)) W6 w')
  (h1 : good (fF md) x 1 = true → New W (fF md) (fun _ => none) m' x.size D' ∧ D' = max 0 (1 - 1 + x.dep)) (h2 : good (fF md) x 1 = false → md ≠ none → D' = 17) : OPost md x w (.returned (.bool (good (fF md) x 1))) w' := by
 refine ⟨D', rfl, hov.st, ⟨hon.os.trans ho.os, hon.tape.trans ho.tape, hon.output.trans ho.output, Nat.le_trans ho.size hon.size, fun k hk hn => ?_⟩, fun hg => by have := (h1 hg).2; omega, h2⟩
 have := ho.size
 rw [hon.block k (by omega) (fun h => by rcases h with rfl | h; omega; exact hn h)]
 exact ho.block k hk hn
theorem over_any {md : Option Nat} {x : Ex} {v : Value} {B : Nat → Prop} {w : World} (h : Lies w B v x.args) (hs : x.size ≤ 1000000) (hst : ∀ bd, md = some bd → Dp w bd 0) :
  Calls Tryz.prog 194 #[exV x v, .func (.func (fK md)) #[] (fC md)] w (OPost md x w) := by
 have hmm := @run_makeMap Tryz.prog
 obtain ⟨N, hN⟩ : ∃ N, w.heap.size = N := ⟨_, rfl⟩
 obtain ⟨W, hW⟩ : ∃ W, w.alloc (.cells #[.int .u8 (x.op : Int), .int .i64 x.n, v] 46) = W := ⟨_, rfl⟩
 have hWs : W.heap.size = N + 1 := by rw [← hW, ← hN]; simp
 have hW0 : W.heap[N]? = some (.cells #[.int .u8 (x.op : Int), .int .i64 x.n, v] 46 (0, 0)) := by rw [← hW]; exact heap_last hN.symm
 have hat : At W Any N 0 x := ⟨_, v, trivial, hW0, rfl, rfl, rfl, by
  rw [← hW]
  exact (h.mono (fun _ _ => trivial)).under ((Below.refl _ _).alloc (Nat.le_refl _) _)⟩
 obtain ⟨W5, hW5⟩ : ∃ W5, (((W.alloc (.cells #[.func (.func (fK md)) #[] (fC md)] 268)).alloc (.map #[] 0)).alloc (.cells #[.map (some (N + 1 + 1))] 292)).alloc (.cells #[.nilFunc] 268) = W5 := ⟨_, rfl⟩
 have g4 : W5.heap[N + 1 + 1 + 1 + 1]? = some (.cells #[.nilFunc] 268 (0, 0)) := by rw [← hW5]; exact heap_last (by simp [hWs])
 have g3 : W5.heap[N + 1 + 1 + 1]? = some (.cells #[.map (some (N + 1 + 1))] 292 (0, 0)) := by rw [← hW5]; exact heap_old (heap_last (by simp [hWs]))
 have g2 : W5.heap[N + 1 + 1]? = some (.map #[] 0) := by rw [← hW5]; exact heap_old (heap_old (heap_last (by simp [hWs])))
 have g1 : W5.heap[N + 1]? = some (.cells #[.func (.func (fK md)) #[] (fC md)] 268 (0, 0)) := by rw [← hW5]; exact heap_old (heap_old (heap_old (heap_last (by simp [hWs]))))
 have gb : Below W.heap.size W W5 := by
  rw [← hW5]
  exact ((((Below.refl _ _).alloc (Nat.le_refl _) _).alloc (by simp) _).alloc (by simp; omega) _).alloc (by simp; omega) _
 have hc5 : W5.cell? ⟨N + 1 + 1 + 1 + 1, 0, none⟩ = some .nilFunc := cell_of g4 rfl
 have hf5 : W5.frozen? ⟨N + 1 + 1 + 1 + 1, 0, none⟩ = false := by simp [World.frozen?, g4]
 have hwb : Below w.heap.size w W := by rw [← hW]; exact (Below.refl _ _).alloc (Nat.le_refl _) _
 obtain ⟨W6, hW6⟩ : ∃ W6, W5.setCell ⟨N + 1 + 1 + 1 + 1, 0, none⟩ (.func (.func 216) #[] #[ptr (N + 1 + 1 + 1), ptr (N + 1), ptr (N + 1 + 1 + 1 + 1)]) = W6 := ⟨_, rfl⟩
 have hov : Ov W md (N + 1 + 1) (N + 1 + 1 + 1) (N + 1) (N + 1 + 1 + 1 + 1) W6 (fun _ => none) 0 := by
  rw [← hW6]
  refine ⟨fun b c hb => ?_, ⟨#[], 0, heap_set g2 (by omega), by simp, by simp, by simp⟩, heap_set g3 (by omega), heap_set g1 (by omega), ?_, fun bd hb => ?_, by omega⟩
  · have hlt := (Array.getElem?_eq_some_iff.1 hb).1
    rw [Below.heap_setCell _ _ _ _ (by show b ≠ N + 1 + 1 + 1 + 1; omega)]
    exact gb.block b (by omega)
  · exact heap_setCell_same W5 _ 0 _ 268 _ g4
  · have h1 := hst bd hb
    unfold Dp at *
    have hlt := (Array.getElem?_eq_some_iff.1 h1).1
    refine heap_set ?_ (by omega)
    rw [gb.block bd (by omega), hwb.block bd (by omega)]
    exact h1
 have hon : Only (fun k => md = some k) w W6 := by
  rw [← hW6]
  refine Only.of_below ?_
  exact ((hwb.trans (gb.mono (by omega))).setCell (by show w.heap.size ≤ N + 1 + 1 + 1 + 1; omega) _)
 have hc6 : W6.cell? ⟨N + 1 + 1 + 1 + 1, 0, none⟩ = some (.func (.func 216) #[] #[ptr (N + 1 + 1 + 1), ptr (N + 1), ptr (N + 1 + 1 + 1 + 1)]) := cell_of hov.b3 rfl
 have HI : Hid (Calls Tryz.prog 216 #[.pointer (some ⟨N, 0, none⟩), .int .i64 1, ptr (N + 1 + 1 + 1), ptr (N + 1), ptr (N + 1 + 1 + 1 + 1)] W6 (IPost W md (N + 1 + 1) (N + 1 + 1 + 1) (N + 1) (N + 1 + 1 + 1 + 1) W6 (fun _ => none) 0 x 1)) := Lib.hid (into_any W md (N + 1 + 1) (N + 1 + 1 + 1) (N + 1) (N + 1 + 1 + 1 + 1) x.size hs x (Nat.le_refl _) W6 _ 0 N 0 1 hov hat (by omega) (by omega) (fun q u hq => by cases hq))
 have HO := Lib.hid hon
 have HN := Lib.hid hN
 have hNW : W.heap.size = N + 1 := hWs
 clear hov hon hat h hwb gb g1 g2 g3 g4 hW0 hst hWs
 unfold exV
 unfold ptr at *
 go_enter Tryz.func194, Tryz.ntmps194
 go_wp2_with fail
 refine HI.out.mono ?_
 rintro e w' ⟨m', D', rfl, hov, hon, h1, h2⟩
 have HX : Hid (OPost md x w (.returned (.bool (good (fF md) x 1))) w') := Lib.hid (over_post HO.out HN.out hov hon h1 h2)
 clear hov hon h1 h2
 go_wp2_with fail
 go_ret
 exact HX.out
theorem box_cells {w W : World} {a b c : Value} {t : TypeId} (hW : w.alloc (.cells #[a, b, c] t) = W) : W.cell? ⟨w.heap.size, 0, none⟩ = some a ∧ W.cell? ⟨w.heap.size, 1, none⟩ = some b ∧ W.cell? ⟨w.heap.size, 2, none⟩ = some c := by
 subst hW
 have h := heap_last (w := w) (o := .cells #[a, b, c] t) rfl
 exact ⟨cell_of h rfl, cell_of h rfl, cell_of h rfl⟩
theorem only_none {w w' : World} {F : Nat → Prop} (h : Only F w w') (hF : ∀ k, ¬ F k) : Below w.heap.size w w' := h.below (Nat.le_refl _) fun k hk => absurd hk (hF k)
theorem may_any {x : Ex} {v : Value} {B : Nat → Prop} {w : World} (h : Lies w B v x.args) (hs : x.size ≤ 1000000) :
  Calls Tryz.prog 196 #[exV x v] w fun e w' => e = .returned (.bool (good FM x 1)) ∧ Below w.heap.size w w' := by
 obtain ⟨W, hW⟩ : ∃ W, w.alloc (.cells #[.int .u8 (x.op : Int), .int .i64 x.n, v] 46) = W := ⟨_, rfl⟩
 have hwb : Below w.heap.size w W := by rw [← hW]; exact (Below.refl _ _).alloc (Nat.le_refl _) _
 have HO : Hid (Calls Tryz.prog 194 #[.agg #[.int .u8 (x.op : Int), .int .i64 x.n, v], .func (.func 217) #[] #[]] W (OPost none x W)) := Lib.hid (over_any (md := none) (h.under hwb) hs (fun bd hb => by cases hb))
 have HB := Lib.hid hwb
 obtain ⟨c0, c1, c2⟩ := box_cells hW
 clear h hwb
 unfold exV
 go_enter Tryz.func196, Tryz.ntmps196
 go_wp2_with fail
 refine HO.out.mono ?_
 rintro e w' ⟨D', rfl, _, hon, _, _⟩
 have HX := Lib.hid (HB.out.trans ((only_none hon (fun k hk => by cases hk)).mono HB.out.size))
 clear hon
 go_wp2_with fail
 go_ret
 exact ⟨rfl, HX.out⟩
theorem deep_any {x : Ex} {v : Value} {B : Nat → Prop} {w : World} (h : Lies w B v x.args) (hs : x.size ≤ 1000000) :
  Calls Tryz.prog 164 #[exV x v] w fun e w' => e = .returned (.int .i64 ((min 17 x.dep : Nat) : Int)) ∧ Below w.heap.size w w' := by
 obtain ⟨W, hW⟩ : ∃ W, w.alloc (.cells #[.int .u8 (x.op : Int), .int .i64 x.n, v] 46) = W := ⟨_, rfl⟩
 obtain ⟨N, hN⟩ : ∃ N, w.heap.size = N := ⟨_, rfl⟩
 have hWs : W.heap.size = N + 1 := by rw [← hW, ← hN]; simp
 obtain ⟨W2, hW2⟩ : ∃ W2, W.alloc (.cells #[.int .i64 0] 3) = W2 := ⟨_, rfl⟩
 have hwb : Below w.heap.size w W := by rw [← hW]; exact (Below.refl _ _).alloc (Nat.le_refl _) _
 have hbx0 : W2.heap[N + 1]? = some (.cells #[.int .i64 0] 3 (0, 0)) := by rw [← hW2]; exact heap_last hWs.symm
 have e0 : W2.cell? ⟨N + 1, 0, none⟩ = some (.int .i64 0) := cell_of hbx0 rfl
 have f0 : W2.frozen? ⟨N + 1, 0, none⟩ = false := by simp [World.frozen?, hbx0]
 obtain ⟨W3, hW3⟩ : ∃ W3, W2.setCell ⟨N + 1, 0, none⟩ (.int .i64 0) = W3 := ⟨_, rfl⟩
 have hwb2 : Below W.heap.size W W3 := by rw [← hW3, ← hW2]; exact ((Below.refl _ _).alloc (Nat.le_refl _) _).setCell (by show W.heap.size ≤ N + 1; omega) _
 have hbx : W3.heap[N + 1]? = some (.cells #[.int .i64 0] 3 (0, 0)) := by rw [← hW3]; exact heap_setCell_same W2 _ 0 _ 3 _ hbx0
 have HO : Hid (Calls Tryz.prog 194 #[.agg #[.int .u8 (x.op : Int), .int .i64 x.n, v], .func (.func 195) #[] #[.pointer (some ⟨N + 1, 0, none⟩)]] W3 (OPost (some (N + 1)) x W3)) :=
  Lib.hid (over_any (md := some (N + 1)) ((h.under hwb).under hwb2) hs (fun bd hb => by cases hb; exact hbx))
 have HB := Lib.hid (hwb.trans (hwb2.mono hwb.size))
 obtain ⟨c0, c1, c2⟩ := box_cells hW
 rw [hN] at c0 c1 c2
 have d0 : W3.cell? ⟨N, 0, none⟩ = some (.int .u8 (x.op : Int)) := (hwb2.cell (p := ⟨N, 0, none⟩) (by show N < _; omega)).trans c0
 have d1 : W3.cell? ⟨N, 1, none⟩ = some (.int .i64 x.n) := (hwb2.cell (p := ⟨N, 1, none⟩) (by show N < _; omega)).trans c1
 have d2 : W3.cell? ⟨N, 2, none⟩ = some v := (hwb2.cell (p := ⟨N, 2, none⟩) (by show N < _; omega)).trans c2
 have HN := Lib.hid (And.intro hN hWs)
 clear h hwb hwb2 hbx hbx0
 unfold exV
 go_enter Tryz.func164, Tryz.ntmps164
 go_wp2_with fail
 refine HO.out.mono ?_
 rintro e w' ⟨D', rfl, hd, hon, h1, h2⟩
 have hd' := hd _ rfl
 have cd : w'.cell? ⟨N + 1, 0, none⟩ = some (.int .i64 (D' : Int)) := cell_of hd' rfl
 have HX := Lib.hid (HB.out.trans (hon.below (B := w.heap.size) HB.out.size (fun k hk => by cases hk; have := HN.out.1; omega)))
 have HD : Hid (D' = min 17 x.dep) := Lib.hid (by
  have hfd := good_FD x 1
  have hfd' : good (fF (some (N + 1))) x 1 = decide (1 + x.dep ≤ 17) := hfd
  rw [hfd'] at h1 h2
  by_cases h17 : 1 + x.dep ≤ 17
  · rw [h1 (by simpa using h17)]; omega
  · rw [h2 (by simpa using h17) (by simp)]; omega)
 clear hon hd hd' h1 h2
 go_wp2_with fail
 go_ret
 exact ⟨ret_int (by rw [HD.out]), HX.out⟩
end Go.Proofs.YtepdecnegihhhaaGreatDoor.exp
end

/- What over's closure answers of a part, and what it leaves in its map. -/
import Derived.Test.YtjmfneljgogohaaDoorExM
import Derived.Deep.RegionWith
import Derived.Deep.DeepCutAuto
namespace Go.Proofs.YtjmfneljgogohaaDoor.exp
set_option linter.unusedSimpArgs false
set_option linter.unusedVariables false
open Go.RowKit nam
open Go.ChangeMaps (setBlock heap_setBlock_same heap_setBlock_other)

/-- w' is w but for the blocks of F and new ones. -/
structure Only (F : Nat → Prop) (w w' : World) : Prop where
  os : w'.os = w.os
  tape : w'.tape = w.tape
  output : w'.output = w.output
  size : w.heap.size ≤ w'.heap.size
  block : ∀ k, k < w.heap.size → ¬ F k → w'.heap[k]? = w.heap[k]?
theorem Only.refl (F : Nat → Prop) (w : World) : Only F w w := ⟨rfl, rfl, rfl, Nat.le_refl _, fun _ _ _ => rfl⟩
theorem Only.mono {F G : Nat → Prop} {w w' : World} (h : Only F w w') (hF : ∀ k, F k → G k) : Only G w w' := ⟨h.os, h.tape, h.output, h.size, fun k hk hn => h.block k hk fun hf => hn (hF k hf)⟩
theorem Only.then {F : Nat → Prop} {a b c : World} (h : Only F a b) (k : Only F b c) : Only F a c :=
  ⟨k.os.trans h.os, k.tape.trans h.tape, k.output.trans h.output, Nat.le_trans h.size k.size, fun i hi hn => (k.block i (Nat.lt_of_lt_of_le hi h.size) hn).trans (h.block i hi hn)⟩
theorem Only.of_below {F : Nat → Prop} {w w' : World} (h : Below w.heap.size w w') : Only F w w' := ⟨h.os, h.tape, h.output, h.size, fun k hk _ => h.block k hk⟩
theorem Only.below {F : Nat → Prop} {w w' : World} {B : Nat} (h : Only F w w') (hB : B ≤ w.heap.size) (hF : ∀ k, F k → B ≤ k) : Below B w w' :=
  ⟨h.os, h.tape, h.output, h.size, fun k hk => h.block k (by omega) fun hf => by have := hF k hf; omega⟩
theorem Only.setCell {F : Nat → Prop} (w : World) (b o : Nat) (v : Value) (hb : F b) : Only F w (w.setCell ⟨b, o, none⟩ v) :=
  ⟨rfl, rfl, rfl, by simp, fun k _ hk => Below.heap_setCell w _ v k (fun e => hk (e ▸ hb))⟩
theorem Only.drew {F : Nat → Prop} {w w' : World} (h : Only F w w') : Only F w w'.drew := ⟨h.os, h.tape, h.output, h.size, h.block⟩
theorem Only.of_drew {F : Nat → Prop} {w w' : World} (h : Only F w.drew w') : Only F w w' := ⟨h.os, h.tape, h.output, h.size, h.block⟩
theorem Only.setBlock {F : Nat → Prop} {w : World} {b : Nat} {es : Array MapEntry} {clock : Nat} (hb : w.heap[b]? = some (.map es clock)) (o : Obj) (hF : F b) : Only F w (setBlock w b o) :=
  ⟨rfl, rfl, rfl, by simp [ChangeMaps.setBlock], fun k _ hk => heap_setBlock_other hb _ (fun e => hk (e ▸ hF))⟩

/-- The rows of expressions are as they were. -/
def Tr (W w : World) : Prop := ∀ (b : Nat) (c : Array Value), W.heap[b]? = some (.cells c 28 (0, 0)) → w.heap[b]? = W.heap[b]?
theorem Tr.refl (w : World) : Tr w w := fun _ _ _ => rfl
theorem Tr.at {W w : World} (h : Tr W w) {B : Nat → Prop} {b o : Nat} {x : Ex} (ha : At W B b o x) : At w B b o x := ha.frame fun b c _ hb => h b c hb
theorem Tr.only {W w w' : World} {F : Nat → Prop} (h : Tr W w) (ho : Only F w w') (hF : ∀ k, F k → ∀ c, W.heap[k]? ≠ some (.cells c 28 (0, 0))) : Tr W w' := fun b c hb => by
  have h1 := h b c hb
  rw [← h1]
  exact ho.block b (Array.getElem?_eq_some_iff.1 (h1.trans hb)).1 fun hf => hF b hf c hb
/-- A place of a row of expressions. -/
def GA (W : World) (a : Addr) : Prop := ∃ c, W.heap[a.block]? = some (.cells c 28 (0, 0))
theorem keyG {W w : World} (h : Tr W w) : KeyT Tryd.prog w kA (GA W) 59 where
  under := (keyA w).under
  inj := (keyA w).inj
  eq a b ha hb := by
    obtain ⟨c, ha⟩ := ha
    obtain ⟨c', hb⟩ := hb
    exact (keyA w).eq a b ⟨c, 28, (h _ _ ha).trans ha⟩ ⟨c', 28, (h _ _ hb).trans hb⟩
  check := (keyA w).check
  stays := (keyA w).stays

/-! Whether it is May that asks, or Deep, with its box. -/
def ptr (b : Nat) : Value := .pointer (some ⟨b, 0, none⟩)
def fK : Option Nat → Nat
  | none => 56
  | some _ => 56
def fC : Option Nat → Array Value
  | none => #[]
  | some b => #[ptr b]
def fF : Option Nat → Nat → Int → Nat → Nat → Bool
  | none => FM
  | some _ => FD
theorem falls_fF (md : Option Nat) : Falls (fF md) := by cases md; exact falls_FM; exact falls_FD
theorem fF_16 {md : Option Nat} {o m d : Nat} {n : Int} (h : fF md o n m d = true) : d ≤ 16 := by
  cases md <;> simp [fF, FM, FD] at h <;> omega
theorem fF_no {md : Option Nat} {o m d : Nat} {n : Int} (h : fF md o n m d = false) (hm : md ≠ none) : 17 ≤ d := by
  cases md with
  | none => exact absurd rfl hm
  | some b => simp [fF, FD] at h; omega
def Moves (md : Option Nat) (mb k : Nat) : Prop := k = mb ∨ md = some k
structure Ov (W : World) (md : Option Nat) (mb bm bf bi : Nat) (w : World) (m : Addr → Option Int) (D : Nat) : Prop where
  tr : Tr W w
  mp : PM kA vI (GA W) w mb m
  b1 : w.heap[bm]? = some (.cells #[.map (some mb)] 96 (0, 0))
  b2 : w.heap[bf]? = some (.cells #[.func (.func (fK md)) #[] (fC md)] 87 (0, 0))
  b3 : w.heap[bi]? = some (.cells #[.func (.func 60) #[] #[ptr bm, ptr bf, ptr bi]] 87 (0, 0))
  st : ∀ bd, md = some bd → Dp w bd D
  hD : D ≤ 17
theorem Ov.drew {W : World} {md : Option Nat} {mb bm bf bi : Nat} {w : World} {m : Addr → Option Int} {D : Nat} (h : Ov W md mb bm bf bi w m D) : Ov W md mb bm bf bi w.drew m D :=
  ⟨h.tr, h.mp.kept rfl, h.b1, h.b2, h.b3, h.st, h.hD⟩
/-- No row of expressions is moved. -/
theorem Ov.moves {W : World} {md : Option Nat} {mb bm bf bi : Nat} {w : World} {m : Addr → Option Int} {D : Nat} (h : Ov W md mb bm bf bi w m D) {k : Nat} (hk : Moves md mb k) (c : Array Value) : W.heap[k]? ≠ some (.cells c 28 (0, 0)) := fun e => by
  have e2 := (h.tr k c e).trans e
  rcases hk with rfl | hk
  · obtain ⟨es, clock, h1, _⟩ := h.mp.is
    rw [h1] at e2
    cases e2
  · exact (h.st k hk).elim
/-- What the asked closure answers of a part. -/
theorem ask_at {W : World} {md : Option Nat} {mb bm bf bi : Nat} {w : World} {m : Addr → Option Int} {D : Nat} (h : Ov W md mb bm bf bi w m D) {B : Nat → Prop} {b o d : Nat} {x : Ex} (ha : At W B b o x) (hd : d ≤ 17) :
    Calls Tryd.prog (fK md) (#[.pointer (some ⟨b, o, none⟩), .int .i64 (d : Int)] ++ fC md) w fun e w' => e = .returned (.bool (fF md x.op x.n x.args.length d)) ∧ Ov W md mb bm bf bi w' m (max D d) ∧ Only (Moves md mb) w w' := by
  cases hmd : md with
  | none =>
    subst hmd
    refine (may1_at (h.tr.at ha)).mono ?_
    rintro e w' ⟨rfl, rfl⟩
    exact ⟨rfl, ⟨h.tr, h.mp, h.b1, h.b2, h.b3, fun bd hb => (by cases hb), by have := h.hD; omega⟩, Only.refl _ _⟩
  | some bd =>
    subst hmd
    exact (h.st bd rfl).elim

/-- What the map has of parts: those that are no greater than so are all told of, and went no deeper than D. -/
def Inv (W : World) (F : Nat → Int → Nat → Nat → Bool) (m : Addr → Option Int) (s D : Nat) : Prop :=
  ∀ q v, m q = some v → ∃ (dq : Nat) (y : Ex), v = (dq : Int) ∧ 1 ≤ dq ∧ dq ≤ 17 ∧ q.spot = none ∧ At W Any q.block q.off y ∧ (y.size ≤ s → good F y dq = true ∧ dq - 1 + y.dep ≤ D)
def New (W : World) (F : Nat → Int → Nat → Nat → Bool) (m m' : Addr → Option Int) (s D : Nat) : Prop :=
  ∀ q v, m' q = some v → m q = some v ∨ ∃ (dq : Nat) (y : Ex), v = (dq : Int) ∧ 1 ≤ dq ∧ dq ≤ 17 ∧ q.spot = none ∧ At W Any q.block q.off y ∧ y.size ≤ s ∧ good F y dq = true ∧ dq - 1 + y.dep ≤ D
theorem Inv.new {W : World} {F : Nat → Int → Nat → Nat → Bool} {m m' : Addr → Option Int} {s s' D D' : Nat} (h : Inv W F m s D) (hn : New W F m m' s' D') (hD : D ≤ D') : Inv W F m' s D' := fun q v hq => by
  rcases hn q v hq with h1 | ⟨dq, y, h1, h2, h3, h4, h5, h6, h7, h8⟩
  · obtain ⟨dq, y, k1, k2, k3, k4, k5, k6⟩ := h q v h1
    exact ⟨dq, y, k1, k2, k3, k4, k5, fun hs => ⟨(k6 hs).1, by have := (k6 hs).2; omega⟩⟩
  · exact ⟨dq, y, h1, h2, h3, h4, h5, fun _ => ⟨h7, h8⟩⟩
theorem Inv.less {W : World} {F : Nat → Int → Nat → Nat → Bool} {m : Addr → Option Int} {s s' D D' : Nat} (h : Inv W F m s D) (hs : s' ≤ s) (hD : D ≤ D') : Inv W F m s' D' := fun q v hq => by
  obtain ⟨dq, y, k1, k2, k3, k4, k5, k6⟩ := h q v hq
  exact ⟨dq, y, k1, k2, k3, k4, k5, fun hs' => ⟨(k6 (by omega)).1, by have := (k6 (by omega)).2; omega⟩⟩
theorem New.refl (W : World) (F : Nat → Int → Nat → Nat → Bool) (m : Addr → Option Int) (s D : Nat) : New W F m m s D := fun q v h => .inl h
theorem New.trans {W : World} {F : Nat → Int → Nat → Nat → Bool} {m m' m'' : Addr → Option Int} {s s' S D D' : Nat} (h : New W F m m' s D) (k : New W F m' m'' s' D') (hs : s ≤ S) (hs' : s' ≤ S) (hD : D ≤ D') : New W F m m'' S D' := fun q v hq => by
  rcases k q v hq with h1 | ⟨dq, y, h1, h2, h3, h4, h5, h6, h7, h8⟩
  · rcases h q v h1 with h1 | ⟨dq, y, h1, h2, h3, h4, h5, h6, h7, h8⟩
    · exact .inl h1
    · exact .inr ⟨dq, y, h1, h2, h3, h4, h5, by omega, h7, by omega⟩
  · exact .inr ⟨dq, y, h1, h2, h3, h4, h5, by omega, h7, h8⟩
end Go.Proofs.YtjmfneljgogohaaDoor.exp

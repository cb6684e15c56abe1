/- Plain facts on the types of expressions. No program's run in this file. Keys that are rows: an Op and the types of its Args. A region that fills a map, entry by entry, in whatever order. What table answers. What table answers. What look's closure answers of a part. What look's closure answers: walked. What look and Of answer. What Of answers. -/
import Derived.Test.YtamdbfkofdjmlaaMEx
import Derived.ChangeKeysEq
import Derived.Laws.StructEq
import Derived.Deep.DeepCutAuto
import Derived.Deep.LoopGhost
section
namespace Go.Proofs.Ytamdbfkofdjmlaa.exp
set_option linter.unusedSimpArgs false
set_option linter.unusedVariables false

/-- An Op, and its Args' types. -/
abbrev Rw := Nat × Nat × Nat × Nat
def put1 (m : Rw → Option Nat) (a : Rw) (v : Nat) : Rw → Option Nat := fun x => if x = a then some v else m x
def tabL : List (Rw × Nat) := [((1, 0, 0, 0), 1), ((2, 0, 0, 0), 1), ((3, 0, 0, 0), 1), ((4, 0, 0, 0), 1), ((5, 1, 0, 0), 1), ((7, 1, 1, 0), 1), ((8, 1, 1, 0), 1), ((9, 1, 1, 0), 1), ((10, 1, 1, 0), 1), ((11, 1, 1, 0), 1), ((6, 2, 0, 0), 2), ((16, 2, 2, 0), 2), ((17, 2, 2, 0), 2), ((12, 1, 1, 0), 2), ((13, 1, 1, 0), 2), ((14, 1, 1, 0), 2), ((14, 2, 2, 0), 2), ((15, 1, 1, 0), 2), ((15, 2, 2, 0), 2), ((18, 2, 1, 1), 1), ((18, 2, 2, 2), 2)]
def tabO : List (Rw × Nat) → (Rw → Option Nat) → Rw → Option Nat
  | [], m => m
  | p :: l, m => tabO l (put1 m p.1 p.2)
/-- The type of each row that has one. -/
def tab : Rw → Option Nat := tabO tabL fun _ => none
def rw3 (o : Nat) (l : List Nat) : Rw := (o, l.getD 0 0, l.getD 1 0, l.getD 2 0)
def tyRow (o : Nat) (l : List Nat) : Nat := (tab (rw3 o l)).getD 0
mutual
/-- An expression's type; 0: none. -/
def Ex.ty : Ex → Nat
  | .mk o _ l => tyRow o (tys l)
def tys : List Ex → List Nat
  | [] => []
  | x :: l => x.ty :: tys l
end
mutual
/-- Is there an ExAcc in it? -/
def Ex.acc : Ex → Bool
  | .mk o _ l => o == 4 || accs l
def accs : List Ex → Bool
  | [] => false
  | x :: l => x.acc || accs l
end
theorem ty_eq (x : Ex) : x.ty = tyRow x.op (tys x.args) := by cases x; rw [Ex.ty]; rfl
theorem acc_eq (x : Ex) : x.acc = (x.op == 4 || accs x.args) := by cases x; rw [Ex.acc]; rfl
theorem tys_nil : tys [] = [] := by rw [tys]
theorem tys_cons (x : Ex) (l : List Ex) : tys (x :: l) = x.ty :: tys l := by rw [tys]
theorem accs_nil : accs [] = false := by rw [accs]
theorem accs_cons (x : Ex) (l : List Ex) : accs (x :: l) = (x.acc || accs l) := by rw [accs]
theorem tys_map (l : List Ex) : tys l = l.map Ex.ty := by
  induction l with
  | nil => rw [tys_nil]; rfl
  | cons x l ih => rw [tys_cons, ih]; rfl
theorem accs_any (l : List Ex) : accs l = l.any Ex.acc := by
  induction l with
  | nil => rw [accs_nil]; rfl
  | cons x l ih => rw [accs_cons, ih]; rfl
theorem tys_len (l : List Ex) : (tys l).length = l.length := by rw [tys_map, List.length_map]
theorem tys_take {l : List Ex} {k : Nat} (hk : k < l.length) : tys (l.take (k + 1)) = tys (l.take k) ++ [l[k].ty] := by
  rw [tys_map, tys_map, List.take_succ_eq_append_getElem hk, List.map_append]; rfl
theorem accs_take {l : List Ex} {k : Nat} (hk : k < l.length) : accs (l.take (k + 1)) = (accs (l.take k) || l[k].acc) := by
  rw [accs_any, accs_any, List.take_succ_eq_append_getElem hk, List.any_append]; simp
theorem rw3_snoc {o k : Nat} {l : List Nat} {t : Nat} (hl : l.length = k) (hk : k < 3) : rw3 o (l ++ [t]) = if k = 0 then (o, t, 0, 0) else if k = 1 then (o, l.getD 0 0, t, 0) else (o, l.getD 0 0, l.getD 1 0, t) := by
  match k, l, hl with
  | 0, [], _ => rfl
  | 1, [a], _ => rfl
  | 2, [a, b], _ => rfl
  | k + 3, _, _ => omega
theorem rw3_short {o k : Nat} {l : List Nat} (hl : l.length = k) : rw3 o l = if k = 0 then (o, 0, 0, 0) else if k = 1 then (o, l.getD 0 0, 0, 0) else if k = 2 then (o, l.getD 0 0, l.getD 1 0, 0) else rw3 o l := by
  match k, l, hl with
  | 0, [], _ => rfl
  | 1, [a], _ => rfl
  | 2, [a, b], _ => rfl
  | k + 3, l, _ => simp
/-- Of what it may be, an expression has at most three parts. -/
theorem fitsB_three {o m : Nat} {n : Int} (h : fitsB o n m = true) : m ≤ 3 := by
  unfold fitsB at h
  split at h
  · cases h
  split at h
  · simp at h; omega
  split at h
  · simp at h; omega
  split at h
  · simp at h; omega
  · simp at h; omega
theorem tab_small {r : Rw} {v : Nat} (h : tab r = some v) : v = 1 ∨ v = 2 := by
  have : ∀ (l : List (Rw × Nat)) (m : Rw → Option Nat), (∀ p ∈ l, p.2 = 1 ∨ p.2 = 2) → (∀ r v, m r = some v → v = 1 ∨ v = 2) → ∀ r v, tabO l m r = some v → v = 1 ∨ v = 2 := by
    intro l
    induction l with
    | nil => intro m _ hm; exact hm
    | cons p l ih =>
      intro m hp hm
      refine ih _ (fun q hq => hp q (List.mem_cons_of_mem _ hq)) fun r v hr => ?_
      unfold put1 at hr
      split at hr
      · cases hr; exact hp p (by simp)
      · exact hm r v hr
  exact this tabL _ (by decide) (fun r v h => by cases h) r v h
/-- What Of tells: the type, the error. -/
def kindO (x : Ex) (acc : Bool) : Nat × Int := if good FM x 1 = false then (0, 2) else if x.acc = true ∧ acc = false then (0, 90) else if x.ty = 0 then (0, 91) else (x.ty, 0)
end Go.Proofs.Ytamdbfkofdjmlaa.exp
end
section
namespace Go.Proofs.Ytamdbfkofdjmlaa.exp
set_option linter.unusedSimpArgs false
set_option linter.unusedVariables false
open Go.RowKit nam
open Go.ChangeMaps (setBlock heap_setBlock_same heap_setBlock_other)

def kR (r : Rw) : Value := .agg #[.int .u8 (r.1 : Int), .int .u8 (r.2.1 : Int), .int .u8 (r.2.2.1 : Int), .int .u8 (r.2.2.2 : Int)]
def vB (n : Nat) : Value := .int .u8 (n : Int)
set_option maxRecDepth 1000000 in
theorem int_eq (d : Nat) (a b : Nat) (w : World) : (Op.equalIn (d + 1) 5 (.int .u8 (a : Int)) (.int .u8 (b : Int))).run Try.prog w = .ok (decide (a = b)) w := by
  have hu : Try.prog.underlying 5 = some (.int .u8) := by kernel_rfl
  rw [run_equalIn_int w d 5 .u8 .u8 _ _ hu]
  congr 1
  rw [Bool.eq_iff_iff]
  simp only [beq_iff_eq, decide_eq_true_eq]
  omega
theorem rpart0 (a b c d : Value) (w : World) : (part 5 #[a, b, c, d] 0).run Try.prog w = .ok a w := by kernel_rfl
theorem rpart3 (a b c d : Value) (w : World) : (part 164 #[a, b, c, d] 1).run Try.prog w = .ok (.agg #[b, c, d]) w := by kernel_rfl
theorem apart0 (b c d : Value) (w : World) : (part 5 #[b, c, d] 0).run Try.prog w = .ok b w := by kernel_rfl
theorem apart1 (b c d : Value) (w : World) : (part 5 #[b, c, d] 1).run Try.prog w = .ok c w := by kernel_rfl
theorem apart2 (b c d : Value) (w : World) : (part 5 #[b, c, d] 2).run Try.prog w = .ok d w := by kernel_rfl
theorem cells5 : Try.prog.cellsOf 5 = 1 := by kernel_rfl
theorem und63 : Try.prog.underlying 164 = some (.array 3 5) := by kernel_rfl
theorem und65 : Try.prog.underlying 166 = some (.struct (Try.prog.fieldsOf 166)) := by kernel_rfl
theorem stood65 : Try.prog.stoodInHeld 166 = false := by kernel_rfl
theorem fields65 : (Try.prog.fieldsOf 166).toList.map (fun f => (f.name == "_", f.type, f.offset)) = [(false, 5, 0), (false, 164, 1)] := by kernel_rfl
theorem run_equalIn_arr (d : Nat) (w : World) (b c e b' c' e' : Nat) : (Op.equalIn (d + 2) 164 (.agg #[.int .u8 (b : Int), .int .u8 (c : Int), .int .u8 (e : Int)]) (.agg #[.int .u8 (b' : Int), .int .u8 (c' : Int), .int .u8 (e' : Int)])).run Try.prog w = .ok (decide (b = b' ∧ c = c' ∧ e = e')) w := by
  have hte : (Try.prog.info? 5).isSome = true := by kernel_rfl
  obtain ⟨i, hi⟩ := Option.isSome_iff_exists.1 hte
  rw [show d + 2 = (d + 1) + 1 from rfl, run_equalIn_array w (d + 1) _ _ und63 hi, cells5, show List.range 3 = [0, 1, 2] from rfl]
  by_cases h1 : b = b' <;> by_cases h2 : c = c' <;> by_cases h3 : e = e' <;>
    simp [Op.eqItems, apart0, apart1, apart2, int_eq, h1, h2, h3]
theorem two_fields {fs : List Field} (h : fs.map (fun f => (f.name == "_", f.type, f.offset)) = [(false, 5, 0), (false, 164, 1)]) : ∃ f g, fs = [f, g] ∧ f.name ≠ "_" ∧ f.type = 5 ∧ f.offset = 0 ∧ g.name ≠ "_" ∧ g.type = 164 ∧ g.offset = 1 := by
  rcases fs with _ | ⟨f, _ | ⟨g, _ | ⟨k, l⟩⟩⟩
  · simp at h
  · simp at h
  · simp only [List.map_cons, List.map_nil, List.cons.injEq, Prod.mk.injEq, and_true, beq_eq_false_iff_ne] at h
    exact ⟨f, g, rfl, h.1.1, h.1.2.1, h.1.2.2, h.2.1, h.2.2.1, h.2.2.2⟩
  · simp at h
theorem run_equalIn_row (d : Nat) (w : World) (a b : Rw) : (Op.equalIn (d + 3) 166 (kR a) (kR b)).run Try.prog w = .ok (decide (a = b)) w := by
  obtain ⟨a0, a1, a2, a3⟩ := a
  obtain ⟨b0, b1, b2, b3⟩ := b
  unfold kR
  rw [show d + 3 = (d + 2) + 1 from rfl, run_equalIn_struct w (d + 2) 166 _ _ und65 stood65]
  obtain ⟨f, g, hfg, n1, t1, o1, n2, t2, o2⟩ := two_fields fields65
  rw [hfg]
  have e1 : ∀ (a b : Nat) w, (Op.equalIn (d + 2) 5 (.int .u8 (a : Int)) (.int .u8 (b : Int))).run Try.prog w = .ok (decide (a = b)) w := int_eq (d + 1)
  have e2 := run_equalIn_arr d
  by_cases h1 : a0 = b0
  · by_cases h2 : a1 = b1 ∧ a2 = b2 ∧ a3 = b3
    · simp [Op.eqFields, n1, n2, t1, t2, o1, o2, rpart0, rpart3, e1, e2, h1, h2]
    · simp [Op.eqFields, n1, n2, t1, t2, o1, o2, rpart0, rpart3, e1, e2, h1, h2]
  · simp [Op.eqFields, n1, n2, t1, t2, o1, o2, rpart0, rpart3, e1, e2, h1]
theorem run_checkKey_row (em : Bool) (d : Nat) (a : Rw) (w : World) : (Instr.checkKey em (d + 3) 166 (kR a)).run Try.prog w = .ok () w := by
  have hi5 : ∀ k x w, (Instr.checkKey em (k + 1) 5 (.int .u8 x)).run Try.prog w = .ok () w := fun k x w => by
    have hu : Try.prog.underlying 5 = some (.int .u8) := by kernel_rfl
    simp [Instr.checkKey, run_underlying hu]
  have hte : (Try.prog.info? 5).isSome = true := by kernel_rfl
  obtain ⟨i, hi⟩ := Option.isSome_iff_exists.1 hte
  have ha : ∀ b c e w, (Instr.checkKey em (d + 2) 164 (.agg #[.int .u8 b, .int .u8 c, .int .u8 e])).run Try.prog w = .ok () w := fun b c e w => by
    rw [show d + 2 = (d + 1) + 1 from rfl, Instr.checkKey]
    simp only [Sem.run_bind, run_underlying und63, Result.andThen_ok]
    simp only [Std.Legacy.Range.forIn_eq_forIn_range', Std.Legacy.Range.size, Nat.sub_zero, Nat.add_one_sub_one, Nat.div_one]
    rw [show List.range' 0 3 1 = [0, 1, 2] from rfl]
    simp only [List.forIn_cons, List.forIn_nil, Sem.run_bind, run_sizeOf w hi, cells5, Nat.zero_mul, Nat.one_mul, Nat.mul_one, apart0, apart1, apart2, Result.andThen_ok, hi5, Sem.run_pure]
  obtain ⟨a0, a1, a2, a3⟩ := a
  unfold kR
  rw [show d + 3 = (d + 2) + 1 from rfl, Instr.checkKey]
  simp only [Sem.run_bind, run_underlying und65, Result.andThen_ok]
  rw [← Array.forIn_toList]
  obtain ⟨f, g, hfg, n1, t1, o1, n2, t2, o2⟩ := two_fields fields65
  rw [hfg]
  simp [n1, n2, t1, t2, o1, o2, rpart0, rpart3, hi5, ha]
theorem keyR (w : World) : KeyT Try.prog w kR (fun _ => True) 166 where
  under := ⟨_, und65, fun a v => rfl⟩
  inj a b h := by
    unfold kR at h
    simp only [Value.agg.injEq, Array.mk.injEq, List.cons.injEq, Value.int.injEq, true_and, and_true] at h
    obtain ⟨a0, a1, a2, a3⟩ := a
    obtain ⟨b0, b1, b2, b3⟩ := b
    simp only at h
    obtain ⟨h1, h2, h3, h4⟩ := h
    have := Int.ofNat.inj h1; have := Int.ofNat.inj h2; have := Int.ofNat.inj h3; have := Int.ofNat.inj h4
    subst_vars
    rfl
  eq a b _ _ := ⟨decide (a = b), by unfold Op.equal Op.maxDepth; exact run_equalIn_row 9997 w a b, by simp⟩
  check em a := run_checkKey_row em 9997 a w
  stays a := by
    have : ∀ d, Instr.sameBits (d + 2) (kR a) (kR a) = true := fun d => by simp [Instr.sameBits, kR]
    simp [Instr.keyThatStays, this 9998]
/-- A row's next entry. -/
theorem put_upd (m : Rw → Option Nat) (a : Rw) (v : Nat) : upd m a v = put1 m a v := rfl
end Go.Proofs.Ytamdbfkofdjmlaa.exp
end
section
namespace Go.Proofs.Ytamdbfkofdjmlaa.exp
set_option linter.unusedSimpArgs false
set_option linter.unusedVariables false
open Go.RowKit nam
open Go.ChangeMaps (setBlock heap_setBlock_same heap_setBlock_other)

theorem PM.congr {P : Program} {w : World} {α β : Type} [DecidableEq α] {κ : α → Value} {ν : β → Value} {G : α → Prop} {b : Nat} {m m' : α → Option β} (h : PM κ ν G w b m) (e : ∀ a, m a = m' a) : PM κ ν G w b m' := by
  have : m = m' := funext e
  exact this ▸ h
/-- One more entry. -/
theorem row_step {w : World} {b : Nat} {m : Rw → Option Nat} (h : PM kR vB (fun _ => True) w b m) (a : Rw) (v : Nat) : ∃ w', (Instr.mapUpdate 159 (.map (some b)) (kR a) (vB v)).run Try.prog w = .ok () w' ∧ PM kR vB (fun _ => True) w' b (put1 m a v) ∧ Only (fun k => k = b) w w' := by
  obtain ⟨o, h1, h2, es, clock, h3⟩ := h.store (keyR w) (a := a) trivial Try.underlying159 v
  exact ⟨_, h1, h2, Only.setBlock h3 o rfl⟩
structure Ent where
  i : Nat
  t : Nat
  k : Rw
  v : Nat
  deriving DecidableEq
def chkA (md : Region.Mode) (ops : Array Oper) (base : Array Bool) (idx : List Nat) : Bool :=
  idx.all fun i => match ops[i]? with
    | some o => o.after.all fun ed => !Region.binds md ed || (base.getD ed.on false && !idx.contains ed.on)
    | none => false
def chkB (md : Region.Mode) (ops : Array Oper) (base : Array Bool) (idx : List Nat) : Bool :=
  (List.range ops.size).all fun i => base.getD i true || idx.contains i || match ops[i]? with
    | some o => idx.all fun j => o.after.any fun ed => Region.binds md ed && ed.on == j
    | none => false
def chkC (base fin : Array Bool) (idx : List Nat) : Bool :=
  fin.size == base.size && (List.range base.size).all (fun i => fin.getD i false == (base.getD i false || idx.contains i)) && idx.all (fun i => decide (i < base.size))
theorem filter_less {p q : Nat → Bool} {i : Nat} : ∀ {l : List Nat}, l.Nodup → i ∈ l → p i = true → q i = false → (∀ j ∈ l, j ≠ i → q j = p j) → (l.filter q).length + 1 = (l.filter p).length
  | x :: l, hn, hi, hp, hq, hh => by
    rw [List.nodup_cons] at hn
    by_cases hx : x = i
    · subst hx
      rw [List.filter_cons_of_neg (by simp [hq]), List.filter_cons_of_pos hp, List.length_cons]
      have : l.filter q = l.filter p := List.filter_congr fun j hj => hh j (by simp [hj]) (fun e => hn.1 (e ▸ hj))
      rw [this]
    · have hil : i ∈ l := by rcases List.mem_cons.1 hi with h | h; exact absurd h.symm hx; exact h
      have ih := filter_less (p := p) (q := q) hn.2 hil hp hq (fun j hj hne => hh j (by simp [hj]) hne)
      have hxx := hh x (by simp) hx
      cases hpx : p x with
      | true => rw [List.filter_cons_of_pos (by rw [hxx]; exact hpx), List.filter_cons_of_pos hpx, List.length_cons, List.length_cons, ih]
      | false => rw [List.filter_cons_of_neg (by rw [hxx, hpx]; simp), List.filter_cons_of_neg (by rw [hpx]; simp), ih]
theorem inj_map {β : Type} {f : Ent → β} : ∀ {l : List Ent}, (l.map f).Nodup → ∀ {x y : Ent}, x ∈ l → y ∈ l → f x = f y → x = y
  | z :: l, hn, x, y, hx, hy, h => by
    rw [List.map_cons, List.nodup_cons] at hn
    rcases List.mem_cons.1 hx with h1 | h1 <;> rcases List.mem_cons.1 hy with h2 | h2
    · rw [h1, h2]
    · exact absurd (by rw [← h1, h]; exact List.mem_map_of_mem h2) hn.1
    · exact absurd (by rw [← h2, ← h]; exact List.mem_map_of_mem h1) hn.1
    · exact inj_map hn.2 h1 h2 h
theorem getD_set_self {l : Array Bool} {i : Nat} {d : Bool} (h : i < l.size) : (l.setIfInBounds i true).getD i d = true := by
  simp [h]
theorem getD_set_other {l : Array Bool} {i j : Nat} {d : Bool} (h : i ≠ j) : (l.setIfInBounds i true).getD j d = l.getD j d := by
  simp [Array.getElem?_setIfInBounds_ne h]
theorem wpAny_fills {md : Region.Mode} {ops : Array Oper} {Q : Exit → Act → World → Prop} {b : Nat} {a : Act} {base fin : Array Bool} {L : List Ent} {T : Rw → Option Nat} {fe : Nat} {W : World}
    (hop : ∀ e ∈ L, ∃ o, ops[e.i]? = some o ∧ o.dst = none ∧ Region.wanted o (yielded ops a.tmps) = true ∧ o.op = .insert 159 (.tmp 1) (.tmp e.t) (.const (vB e.v)) ∧ a.eval (.tmp 1) = .map (some b) ∧ a.eval (.tmp e.t) = kR e.k)
    (hA : chkA md ops base (L.map Ent.i) = true) (hB : chkB md ops base (L.map Ent.i) = true) (hC : chkC base fin (L.map Ent.i) = true) (hU : (L.map Ent.i).all (fun i => !base.getD i true) = true)
    (hn : (L.map Ent.i).Nodup) (hk : (L.map Ent.k).Nodup) (hT : ∀ e ∈ L, T e.k = some e.v) (hT' : ∀ r v, T r = some v → ∃ e ∈ L, e.k = r)
    (hend : ∀ w', PM kR vB (fun _ => True) w' b T → Only (fun k => k = b) W w' → wpAny Try.prog md ops Q fe fin a w') :
    PM kR vB (fun _ => True) W b (fun _ => none) → wpAny Try.prog md ops Q (fe + L.length) base a W := by
  intro hW
  have key : ∀ (k : Nat) (listed : Array Bool) (w : World), (((L.map Ent.i).filter fun i => !listed.getD i true).length = k) → listed.size = base.size → (∀ i, i ∉ L.map Ent.i → listed[i]? = base[i]?) →
      (∃ S : Rw → Bool, (∀ e ∈ L, S e.k = listed.getD e.i false) ∧ PM kR vB (fun _ => True) w b (fun r => if S r then T r else none)) → Only (fun k => k = b) W w → wpAny Try.prog md ops Q (fe + k) listed a w := by
    unfold chkC at hC
    simp only [Bool.and_eq_true, beq_iff_eq, List.all_eq_true, List.mem_range, decide_eq_true_eq] at hC
    obtain ⟨⟨hC1, hC2⟩, hC3⟩ := hC
    intro k
    induction k with
    | zero =>
      intro listed w hc hs ho ⟨S, hS, hpm⟩ hon
      have hall : ∀ i ∈ L.map Ent.i, listed.getD i true = true := fun i hi => by
        rw [List.length_eq_zero_iff, List.filter_eq_nil_iff] at hc
        have := hc i hi
        simpa using this
      have hfin : listed = fin := by
        refine Array.ext (by rw [hs, hC1]) fun i h1 h2 => ?_
        have h3 := hC2 i (by omega)
        rw [Array.getD_eq_getD_getElem?, Array.getElem?_eq_getElem h2, Option.getD_some] at h3
        rw [h3]
        by_cases hi : i ∈ L.map Ent.i
        · have h4 := hall i hi
          rw [Array.getD_eq_getD_getElem?, Array.getElem?_eq_getElem h1, Option.getD_some] at h4
          rw [h4]
          simp [List.contains_iff_mem, hi]
        · have h4 := ho i hi
          rw [Array.getElem?_eq_getElem h1, Array.getElem?_eq_getElem (by omega)] at h4
          have h5 : (L.map Ent.i).contains i = false := by simpa [List.contains_iff_mem] using hi
          rw [h5, Bool.or_false, Array.getD_eq_getD_getElem?, Array.getElem?_eq_getElem (by omega : i < base.size), Option.getD_some]
          exact Option.some.inj h4
      subst hfin
      refine hend w (hpm.congr (P := Try.prog) fun r => ?_) hon
      cases ht : T r with
      | none => simp
      | some v =>
        obtain ⟨e, he, rfl⟩ := hT' r v ht
        have h1 := hall e.i (List.mem_map_of_mem he)
        have h2 := hS e he
        have h3 := hC3 e.i (List.mem_map_of_mem he)
        have h4 : listed.getD e.i false = true := by
          rw [Array.getD_eq_getD_getElem?, Array.getElem?_eq_getElem (by omega), Option.getD_some] at h1 ⊢
          exact h1
        simp [h2, h4]
    | succ k ih =>
      intro listed w hc hs ho ⟨S, hS, hpm⟩ hon
      have hne : ∃ j ∈ L.map Ent.i, listed.getD j true = false := by
        have : ((L.map Ent.i).filter fun i => !listed.getD i true) ≠ [] := fun h => by rw [h] at hc; simp at hc
        obtain ⟨j, hj⟩ := List.exists_mem_of_ne_nil _ this
        rw [List.mem_filter] at hj
        exact ⟨j, hj.1, by simpa using hj.2⟩
      obtain ⟨j0, hj0, hj0'⟩ := hne
      have hafter : ∀ i ∈ L.map Ent.i, ∃ o, ops[i]? = some o ∧ ∀ ed ∈ o.after, Region.binds md ed = true → listed.getD ed.on false = true := fun i hi => by
        unfold chkA at hA
        rw [List.all_eq_true] at hA
        have h1 := hA i hi
        cases ho1 : ops[i]? with
        | none => rw [ho1] at h1; cases h1
        | some o =>
          rw [ho1] at h1
          refine ⟨o, rfl, fun ed hed hb => ?_⟩
          have h2 := (Array.all_eq_true'.1 h1) ed hed
          rw [hb] at h2
          simp only [Bool.not_true, Bool.false_or, Bool.and_eq_true, Bool.not_eq_true', List.contains_iff_mem, decide_eq_false_iff_not] at h2
          rw [Array.getD_eq_getD_getElem?, ho ed.on (by simpa using h2.2), ← Array.getD_eq_getD_getElem?]
          exact h2.1
      have hready : ∀ i, i ∈ Region.ready md ops listed → i ∈ L.map Ent.i ∧ listed.getD i true = false := fun i hi => by
        obtain ⟨h1, o, h2, h3⟩ := mem_ready.1 hi
        refine ⟨?_, h1⟩
        apply Classical.byContradiction
        intro hni
        unfold chkB at hB
        rw [List.all_eq_true] at hB
        have h4 := hB i (List.mem_range.2 (Array.getElem?_eq_some_iff.1 h2).1)
        have h5 : base.getD i true = false := by rw [Array.getD_eq_getD_getElem?, ← ho i hni, ← Array.getD_eq_getD_getElem?]; exact h1
        have h6 : (L.map Ent.i).contains i = false := by simpa [List.contains_iff_mem] using hni
        rw [h5, h6, h2] at h4
        simp only [Bool.false_or, List.all_eq_true] at h4
        obtain ⟨ed, hed, hb⟩ := Array.any_eq_true'.1 (h4 j0 hj0)
        simp only [Bool.and_eq_true, beq_iff_eq] at hb
        have h7 := h3 ed hed hb.1
        rw [hb.2] at h7
        have h8 := hC3 j0 hj0
        rw [Array.getD_eq_getD_getElem?, Array.getElem?_eq_getElem (by omega), Option.getD_some] at h7 hj0'
        rw [hj0'] at h7
        cases h7
      rw [show fe + (k + 1) = (fe + k) + 1 from rfl]
      refine ⟨fun h => ?_, fun i hi => ?_⟩
      · have : j0 ∈ Region.ready md ops listed := by
          obtain ⟨o, h1, h2⟩ := hafter j0 hj0
          exact mem_ready.2 ⟨hj0', o, h1, h2⟩
        rw [h] at this
        cases this
      · obtain ⟨hiL, hiu⟩ := hready i hi
        obtain ⟨e, he, rfl⟩ := List.mem_map.1 hiL
        obtain ⟨o, h1, h2, h3, h4, h5, h6⟩ := hop e he
        obtain ⟨w2, r1, r2, r3⟩ := row_step hpm e.k e.v
        have hlt : e.i < listed.size := by rw [hs]; exact hC3 e.i hiL
        have hrun : (execOp a.eval o).run Try.prog w = .ok .skip w2 := by
          obtain ⟨dst, op, ty, pos, af, gd⟩ := o
          simp only at h4
          subst h4
          simp only [execOp, h5, h6, Sem.run_bind]
          rw [show a.eval (.const (vB e.v)) = vB e.v from rfl, r1]
          rfl
        unfold wpOp
        rw [h1]
        show if Region.wanted o (yielded ops a.tmps) = true then _ else _
        rw [if_pos h3]
        refine .inl ?_
        unfold Oper.wp
        rw [hrun]
        show wpAny _ _ _ _ _ _ (a.put o.dst undef) w2
        rw [h2]
        refine ih _ w2 ?_ (by simpa using hs) (fun j hj => ?_) ⟨fun r => S r || r == e.k, fun e' he' => ?_, r2.congr (P := Try.prog) fun r => ?_⟩ (hon.then r3)
        · have := filter_less (p := fun i => !listed.getD i true) (q := fun j => !(listed.setIfInBounds e.i true).getD j true) hn hiL (by simpa using hiu) (by rw [getD_set_self hlt]; rfl) (fun j _ hne => by rw [getD_set_other (Ne.symm hne)])
          omega
        · have hne : e.i ≠ j := fun h => hj (h ▸ hiL)
          rw [Array.getElem?_setIfInBounds_ne hne]
          exact ho j hj
        · by_cases hee : e' = e
          · subst hee
            rw [getD_set_self hlt]
            simp
          · have hne : e.i ≠ e'.i := fun h => hee ((inj_map hn he' he h.symm))
            have hke : e'.k ≠ e.k := fun h => hee ((inj_map hk he' he h))
            rw [getD_set_other hne, ← hS e' he']
            simp [hke]
        · unfold put1
          by_cases hr : r = e.k
          · subst hr
            simp [hT e he]
          · simp [hr]
  have h0 := key L.length base W (by
    rw [List.filter_eq_self.2 fun i hi => (List.all_eq_true.1 hU) i hi, List.length_map]) rfl (fun _ _ => rfl) ⟨fun _ => false, fun e he => ?_, by simpa using hW⟩ (Only.refl _ _)
  · exact h0
  · have h1 := List.all_eq_true.1 hU e.i (List.mem_map_of_mem he)
    unfold chkC at hC
    simp only [Bool.and_eq_true, beq_iff_eq, List.all_eq_true, List.mem_range, decide_eq_true_eq] at hC
    have h2 := hC.2 e.i (List.mem_map_of_mem he)
    simp only [Bool.not_eq_true', Array.getD_eq_getD_getElem?, Array.getElem?_eq_getElem h2, Option.getD_some] at h1 ⊢
    rw [h1]
end Go.Proofs.Ytamdbfkofdjmlaa.exp
end
section
namespace Go.Proofs.Ytamdbfkofdjmlaa.exp
set_option linter.unusedSimpArgs false
set_option linter.unusedVariables false
open Go.RowKit nam
open Go.ChangeMaps (setBlock heap_setBlock_same heap_setBlock_other)

def ents : List Ent := [⟨3, 3, (1, 0, 0, 0), 1⟩, ⟨6, 5, (2, 0, 0, 0), 1⟩, ⟨9, 7, (3, 0, 0, 0), 1⟩, ⟨12, 9, (4, 0, 0, 0), 1⟩, ⟨15, 11, (5, 1, 0, 0), 1⟩, ⟨18, 13, (7, 1, 1, 0), 1⟩, ⟨21, 15, (8, 1, 1, 0), 1⟩, ⟨24, 17, (9, 1, 1, 0), 1⟩, ⟨27, 19, (10, 1, 1, 0), 1⟩, ⟨30, 21, (11, 1, 1, 0), 1⟩, ⟨33, 23, (6, 2, 0, 0), 2⟩, ⟨36, 25, (16, 2, 2, 0), 2⟩, ⟨39, 27, (17, 2, 2, 0), 2⟩, ⟨42, 29, (12, 1, 1, 0), 2⟩, ⟨45, 31, (13, 1, 1, 0), 2⟩, ⟨48, 33, (14, 1, 1, 0), 2⟩, ⟨51, 35, (14, 2, 2, 0), 2⟩, ⟨54, 37, (15, 1, 1, 0), 2⟩, ⟨57, 39, (15, 2, 2, 0), 2⟩, ⟨60, 41, (18, 2, 1, 1), 1⟩, ⟨63, 43, (18, 2, 2, 2), 2⟩]
theorem ents_tab : ∀ e ∈ ents, tab e.k = some e.v := by decide
theorem tab_in : ∀ r v, tab r = some v → ∃ e ∈ ents, e.k = r := by
  have : ∀ (l : List (Rw × Nat)) (m : Rw → Option Nat) (r : Rw) (v : Nat), tabO l m r = some v → (∃ p ∈ l, p.1 = r) ∨ ∃ u, m r = some u := by
    intro l
    induction l with
    | nil => intro m r v h; exact .inr ⟨v, h⟩
    | cons p l ih =>
      intro m r v h
      rcases ih _ r v h with ⟨q, h1, h2⟩ | ⟨u, h1⟩
      · exact .inl ⟨q, List.mem_cons_of_mem _ h1, h2⟩
      · unfold put1 at h1
        split at h1
        · rename_i hr
          exact .inl ⟨p, by simp, hr.symm⟩
        · exact .inr ⟨u, h1⟩
  intro r v h
  rcases this tabL _ r v h with ⟨p, h1, h2⟩ | ⟨u, h1⟩
  · have h3 : ∀ p ∈ tabL, ∃ e ∈ ents, e.k = p.1 := by decide
    obtain ⟨e, h4, h5⟩ := h3 p h1
    exact ⟨e, h4, h5.trans h2⟩
  · cases h1
def pss : String := "kind.go:63"
/-- The region's operations. -/
def tOps : Array Oper := #[
  { dst := some 1, op := .makeMap 159 none, type := 159, pos := pss, after := #[], guard := none },
  { dst := some 2, op := .build 164 #[], type := 164, pos := pss, after := #[], guard := none },
  { dst := some 3, op := .build 166 #[(0, .const (.int .u8 1)), (1, .tmp 2)], type := 166, pos := pss, after := #[{ on := 1, ground := Ground.data }], guard := none },
  { dst := none, op := .insert 159 (.tmp 1) (.tmp 3) (.const (.int .u8 1)), type := 0, pos := pss, after := #[{ on := 0, ground := Ground.data }, { on := 2, ground := Ground.data }], guard := none },
  { dst := some 4, op := .build 164 #[], type := 164, pos := pss, after := #[], guard := none },
  { dst := some 5, op := .build 166 #[(0, .const (.int .u8 2)), (1, .tmp 4)], type := 166, pos := pss, after := #[{ on := 4, ground := Ground.data }], guard := none },
  { dst := none, op := .insert 159 (.tmp 1) (.tmp 5) (.const (.int .u8 1)), type := 0, pos := pss, after := #[{ on := 0, ground := Ground.data }, { on := 5, ground := Ground.data }], guard := none },
  { dst := some 6, op := .build 164 #[], type := 164, pos := pss, after := #[], guard := none },
  { dst := some 7, op := .build 166 #[(0, .const (.int .u8 3)), (1, .tmp 6)], type := 166, pos := pss, after := #[{ on := 7, ground := Ground.data }], guard := none },
  { dst := none, op := .insert 159 (.tmp 1) (.tmp 7) (.const (.int .u8 1)), type := 0, pos := pss, after := #[{ on := 0, ground := Ground.data }, { on := 8, ground := Ground.data }], guard := none },
  { dst := some 8, op := .build 164 #[], type := 164, pos := pss, after := #[], guard := none },
  { dst := some 9, op := .build 166 #[(0, .const (.int .u8 4)), (1, .tmp 8)], type := 166, pos := pss, after := #[{ on := 10, ground := Ground.data }], guard := none },
  { dst := none, op := .insert 159 (.tmp 1) (.tmp 9) (.const (.int .u8 1)), type := 0, pos := pss, after := #[{ on := 0, ground := Ground.data }, { on := 11, ground := Ground.data }], guard := none },
  { dst := some 10, op := .build 164 #[(0, .const (.int .u8 1))], type := 164, pos := pss, after := #[], guard := none },
  { dst := some 11, op := .build 166 #[(0, .const (.int .u8 5)), (1, .tmp 10)], type := 166, pos := pss, after := #[{ on := 13, ground := Ground.data }], guard := none },
  { dst := none, op := .insert 159 (.tmp 1) (.tmp 11) (.const (.int .u8 1)), type := 0, pos := pss, after := #[{ on := 0, ground := Ground.data }, { on := 14, ground := Ground.data }], guard := none },
  { dst := some 12, op := .build 164 #[(0, .const (.int .u8 1)), (1, .const (.int .u8 1))], type := 164, pos := pss, after := #[], guard := none },
  { dst := some 13, op := .build 166 #[(0, .const (.int .u8 7)), (1, .tmp 12)], type := 166, pos := pss, after := #[{ on := 16, ground := Ground.data }], guard := none },
  { dst := none, op := .insert 159 (.tmp 1) (.tmp 13) (.const (.int .u8 1)), type := 0, pos := pss, after := #[{ on := 0, ground := Ground.data }, { on := 17, ground := Ground.data }], guard := none },
  { dst := some 14, op := .build 164 #[(0, .const (.int .u8 1)), (1, .const (.int .u8 1))], type := 164, pos := pss, after := #[], guard := none },
  { dst := some 15, op := .build 166 #[(0, .const (.int .u8 8)), (1, .tmp 14)], type := 166, pos := pss, after := #[{ on := 19, ground := Ground.data }], guard := none },
  { dst := none, op := .insert 159 (.tmp 1) (.tmp 15) (.const (.int .u8 1)), type := 0, pos := pss, after := #[{ on := 0, ground := Ground.data }, { on := 20, ground := Ground.data }], guard := none },
  { dst := some 16, op := .build 164 #[(0, .const (.int .u8 1)), (1, .const (.int .u8 1))], type := 164, pos := pss, after := #[], guard := none },
  { dst := some 17, op := .build 166 #[(0, .const (.int .u8 9)), (1, .tmp 16)], type := 166, pos := pss, after := #[{ on := 22, ground := Ground.data }], guard := none },
  { dst := none, op := .insert 159 (.tmp 1) (.tmp 17) (.const (.int .u8 1)), type := 0, pos := pss, after := #[{ on := 0, ground := Ground.data }, { on := 23, ground := Ground.data }], guard := none },
  { dst := some 18, op := .build 164 #[(0, .const (.int .u8 1)), (1, .const (.int .u8 1))], type := 164, pos := pss, after := #[], guard := none },
  { dst := some 19, op := .build 166 #[(0, .const (.int .u8 10)), (1, .tmp 18)], type := 166, pos := pss, after := #[{ on := 25, ground := Ground.data }], guard := none },
  { dst := none, op := .insert 159 (.tmp 1) (.tmp 19) (.const (.int .u8 1)), type := 0, pos := pss, after := #[{ on := 0, ground := Ground.data }, { on := 26, ground := Ground.data }], guard := none },
  { dst := some 20, op := .build 164 #[(0, .const (.int .u8 1)), (1, .const (.int .u8 1))], type := 164, pos := pss, after := #[], guard := none },
  { dst := some 21, op := .build 166 #[(0, .const (.int .u8 11)), (1, .tmp 20)], type := 166, pos := pss, after := #[{ on := 28, ground := Ground.data }], guard := none },
  { dst := none, op := .insert 159 (.tmp 1) (.tmp 21) (.const (.int .u8 1)), type := 0, pos := pss, after := #[{ on := 0, ground := Ground.data }, { on := 29, ground := Ground.data }], guard := none },
  { dst := some 22, op := .build 164 #[(0, .const (.int .u8 2))], type := 164, pos := pss, after := #[], guard := none },
  { dst := some 23, op := .build 166 #[(0, .const (.int .u8 6)), (1, .tmp 22)], type := 166, pos := pss, after := #[{ on := 31, ground := Ground.data }], guard := none },
  { dst := none, op := .insert 159 (.tmp 1) (.tmp 23) (.const (.int .u8 2)), type := 0, pos := pss, after := #[{ on := 0, ground := Ground.data }, { on := 32, ground := Ground.data }], guard := none },
  { dst := some 24, op := .build 164 #[(0, .const (.int .u8 2)), (1, .const (.int .u8 2))], type := 164, pos := pss, after := #[], guard := none },
  { dst := some 25, op := .build 166 #[(0, .const (.int .u8 16)), (1, .tmp 24)], type := 166, pos := pss, after := #[{ on := 34, ground := Ground.data }], guard := none },
  { dst := none, op := .insert 159 (.tmp 1) (.tmp 25) (.const (.int .u8 2)), type := 0, pos := pss, after := #[{ on := 0, ground := Ground.data }, { on := 35, ground := Ground.data }], guard := none },
  { dst := some 26, op := .build 164 #[(0, .const (.int .u8 2)), (1, .const (.int .u8 2))], type := 164, pos := pss, after := #[], guard := none },
  { dst := some 27, op := .build 166 #[(0, .const (.int .u8 17)), (1, .tmp 26)], type := 166, pos := pss, after := #[{ on := 37, ground := Ground.data }], guard := none },
  { dst := none, op := .insert 159 (.tmp 1) (.tmp 27) (.const (.int .u8 2)), type := 0, pos := pss, after := #[{ on := 0, ground := Ground.data }, { on := 38, ground := Ground.data }], guard := none },
  { dst := some 28, op := .build 164 #[(0, .const (.int .u8 1)), (1, .const (.int .u8 1))], type := 164, pos := pss, after := #[], guard := none },
  { dst := some 29, op := .build 166 #[(0, .const (.int .u8 12)), (1, .tmp 28)], type := 166, pos := pss, after := #[{ on := 40, ground := Ground.data }], guard := none },
  { dst := none, op := .insert 159 (.tmp 1) (.tmp 29) (.const (.int .u8 2)), type := 0, pos := pss, after := #[{ on := 0, ground := Ground.data }, { on := 41, ground := Ground.data }], guard := none },
  { dst := some 30, op := .build 164 #[(0, .const (.int .u8 1)), (1, .const (.int .u8 1))], type := 164, pos := pss, after := #[], guard := none },
  { dst := some 31, op := .build 166 #[(0, .const (.int .u8 13)), (1, .tmp 30)], type := 166, pos := pss, after := #[{ on := 43, ground := Ground.data }], guard := none },
  { dst := none, op := .insert 159 (.tmp 1) (.tmp 31) (.const (.int .u8 2)), type := 0, pos := pss, after := #[{ on := 0, ground := Ground.data }, { on := 44, ground := Ground.data }], guard := none },
  { dst := some 32, op := .build 164 #[(0, .const (.int .u8 1)), (1, .const (.int .u8 1))], type := 164, pos := pss, after := #[], guard := none },
  { dst := some 33, op := .build 166 #[(0, .const (.int .u8 14)), (1, .tmp 32)], type := 166, pos := pss, after := #[{ on := 46, ground := Ground.data }], guard := none },
  { dst := none, op := .insert 159 (.tmp 1) (.tmp 33) (.const (.int .u8 2)), type := 0, pos := pss, after := #[{ on := 0, ground := Ground.data }, { on := 47, ground := Ground.data }], guard := none },
  { dst := some 34, op := .build 164 #[(0, .const (.int .u8 2)), (1, .const (.int .u8 2))], type := 164, pos := pss, after := #[], guard := none },
  { dst := some 35, op := .build 166 #[(0, .const (.int .u8 14)), (1, .tmp 34)], type := 166, pos := pss, after := #[{ on := 49, ground := Ground.data }], guard := none },
  { dst := none, op := .insert 159 (.tmp 1) (.tmp 35) (.const (.int .u8 2)), type := 0, pos := pss, after := #[{ on := 0, ground := Ground.data }, { on := 50, ground := Ground.data }], guard := none },
  { dst := some 36, op := .build 164 #[(0, .const (.int .u8 1)), (1, .const (.int .u8 1))], type := 164, pos := pss, after := #[], guard := none },
  { dst := some 37, op := .build 166 #[(0, .const (.int .u8 15)), (1, .tmp 36)], type := 166, pos := pss, after := #[{ on := 52, ground := Ground.data }], guard := none },
  { dst := none, op := .insert 159 (.tmp 1) (.tmp 37) (.const (.int .u8 2)), type := 0, pos := pss, after := #[{ on := 0, ground := Ground.data }, { on := 53, ground := Ground.data }], guard := none },
  { dst := some 38, op := .build 164 #[(0, .const (.int .u8 2)), (1, .const (.int .u8 2))], type := 164, pos := pss, after := #[], guard := none },
  { dst := some 39, op := .build 166 #[(0, .const (.int .u8 15)), (1, .tmp 38)], type := 166, pos := pss, after := #[{ on := 55, ground := Ground.data }], guard := none },
  { dst := none, op := .insert 159 (.tmp 1) (.tmp 39) (.const (.int .u8 2)), type := 0, pos := pss, after := #[{ on := 0, ground := Ground.data }, { on := 56, ground := Ground.data }], guard := none },
  { dst := some 40, op := .build 164 #[(0, .const (.int .u8 2)), (1, .const (.int .u8 1)), (2, .const (.int .u8 1))], type := 164, pos := pss, after := #[], guard := none },
  { dst := some 41, op := .build 166 #[(0, .const (.int .u8 18)), (1, .tmp 40)], type := 166, pos := pss, after := #[{ on := 58, ground := Ground.data }], guard := none },
  { dst := none, op := .insert 159 (.tmp 1) (.tmp 41) (.const (.int .u8 1)), type := 0, pos := pss, after := #[{ on := 0, ground := Ground.data }, { on := 59, ground := Ground.data }], guard := none },
  { dst := some 42, op := .build 164 #[(0, .const (.int .u8 2)), (1, .const (.int .u8 2)), (2, .const (.int .u8 2))], type := 164, pos := pss, after := #[], guard := none },
  { dst := some 43, op := .build 166 #[(0, .const (.int .u8 18)), (1, .tmp 42)], type := 166, pos := pss, after := #[{ on := 61, ground := Ground.data }], guard := none },
  { dst := none, op := .insert 159 (.tmp 1) (.tmp 43) (.const (.int .u8 2)), type := 0, pos := pss, after := #[{ on := 0, ground := Ground.data }, { on := 62, ground := Ground.data }], guard := none },
  { dst := some 44, op := .move (.tmp 1), type := 159, pos := pss, after := #[{ on := 0, ground := Ground.data }, { on := 1, ground := Ground.data }, { on := 2, ground := Ground.data }, { on := 3, ground := Ground.data }, { on := 4, ground := Ground.data }, { on := 5, ground := Ground.data }, { on := 6, ground := Ground.data }, { on := 7, ground := Ground.data }, { on := 8, ground := Ground.data }, { on := 9, ground := Ground.data }, { on := 10, ground := Ground.data }, { on := 11, ground := Ground.data }, { on := 12, ground := Ground.data }, { on := 13, ground := Ground.data }, { on := 14, ground := Ground.data }, { on := 15, ground := Ground.data }, { on := 16, ground := Ground.data }, { on := 17, ground := Ground.data }, { on := 18, ground := Ground.data }, { on := 19, ground := Ground.data }, { on := 20, ground := Ground.data }, { on := 21, ground := Ground.data }, { on := 22, ground := Ground.data }, { on := 23, ground := Ground.data }, { on := 24, ground := Ground.data }, { on := 25, ground := Ground.data }, { on := 26, ground := Ground.data }, { on := 27, ground := Ground.data }, { on := 28, ground := Ground.data }, { on := 29, ground := Ground.data }, { on := 30, ground := Ground.data }, { on := 31, ground := Ground.data }, { on := 32, ground := Ground.data }, { on := 33, ground := Ground.data }, { on := 34, ground := Ground.data }, { on := 35, ground := Ground.data }, { on := 36, ground := Ground.data }, { on := 37, ground := Ground.data }, { on := 38, ground := Ground.data }, { on := 39, ground := Ground.data }, { on := 40, ground := Ground.data }, { on := 41, ground := Ground.data }, { on := 42, ground := Ground.data }, { on := 43, ground := Ground.data }, { on := 44, ground := Ground.data }, { on := 45, ground := Ground.data }, { on := 46, ground := Ground.data }, { on := 47, ground := Ground.data }, { on := 48, ground := Ground.data }, { on := 49, ground := Ground.data }, { on := 50, ground := Ground.data }, { on := 51, ground := Ground.data }, { on := 52, ground := Ground.data }, { on := 53, ground := Ground.data }, { on := 54, ground := Ground.data }, { on := 55, ground := Ground.data }, { on := 56, ground := Ground.data }, { on := 57, ground := Ground.data }, { on := 58, ground := Ground.data }, { on := 59, ground := Ground.data }, { on := 60, ground := Ground.data }, { on := 61, ground := Ground.data }, { on := 62, ground := Ground.data }, { on := 63, ground := Ground.data }], guard := none },
  { dst := some 0, op := .assign (.tmp 44), type := 159, pos := pss, after := #[{ on := 64, ground := Ground.data }, { on := 0, ground := Ground.phase }, { on := 1, ground := Ground.phase }, { on := 2, ground := Ground.phase }, { on := 3, ground := Ground.phase }, { on := 4, ground := Ground.phase }, { on := 5, ground := Ground.phase }, { on := 6, ground := Ground.phase }, { on := 7, ground := Ground.phase }, { on := 8, ground := Ground.phase }, { on := 9, ground := Ground.phase }, { on := 10, ground := Ground.phase }, { on := 11, ground := Ground.phase }, { on := 12, ground := Ground.phase }, { on := 13, ground := Ground.phase }, { on := 14, ground := Ground.phase }, { on := 15, ground := Ground.phase }, { on := 16, ground := Ground.phase }, { on := 17, ground := Ground.phase }, { on := 18, ground := Ground.phase }, { on := 19, ground := Ground.phase }, { on := 20, ground := Ground.phase }, { on := 21, ground := Ground.phase }, { on := 22, ground := Ground.phase }, { on := 23, ground := Ground.phase }, { on := 24, ground := Ground.phase }, { on := 25, ground := Ground.phase }, { on := 26, ground := Ground.phase }, { on := 27, ground := Ground.phase }, { on := 28, ground := Ground.phase }, { on := 29, ground := Ground.phase }, { on := 30, ground := Ground.phase }, { on := 31, ground := Ground.phase }, { on := 32, ground := Ground.phase }, { on := 33, ground := Ground.phase }, { on := 34, ground := Ground.phase }, { on := 35, ground := Ground.phase }, { on := 36, ground := Ground.phase }, { on := 37, ground := Ground.phase }, { on := 38, ground := Ground.phase }, { on := 39, ground := Ground.phase }, { on := 40, ground := Ground.phase }, { on := 41, ground := Ground.phase }, { on := 42, ground := Ground.phase }, { on := 43, ground := Ground.phase }, { on := 44, ground := Ground.phase }, { on := 45, ground := Ground.phase }, { on := 46, ground := Ground.phase }, { on := 47, ground := Ground.phase }, { on := 48, ground := Ground.phase }, { on := 49, ground := Ground.phase }, { on := 50, ground := Ground.phase }, { on := 51, ground := Ground.phase }, { on := 52, ground := Ground.phase }, { on := 53, ground := Ground.phase }, { on := 54, ground := Ground.phase }, { on := 55, ground := Ground.phase }, { on := 56, ground := Ground.phase }, { on := 57, ground := Ground.phase }, { on := 58, ground := Ground.phase }, { on := 59, ground := Ground.phase }, { on := 60, ground := Ground.phase }, { on := 61, ground := Ground.phase }, { on := 62, ground := Ground.phase }, { on := 63, ground := Ground.phase }, { on := 64, ground := Ground.phase }], guard := none }]
set_option maxRecDepth 100000 in
theorem takes_all {Q : Exit → Act → World → Prop} (hQ : ∀ c (a : Act) d v w, Q (.panic c) (a.put d v) w → Q (.panic c) a w) {w : World} (h : wpAny Try.prog .any tOps Q 24 #[false, true, true, false, true, true, false, true, true, false, true, true, false, true, true, false, true, true, false, true, true, false, true, true, false, true, true, false, true, true, false, true, true, false, true, true, false, true, true, false, true, true, false, true, true, false, true, true, false, true, true, false, true, true, false, true, true, false, true, true, false, true, true, false, false, false] { tmps := #[.map none, undef, .agg #[.int .u8 0, .int .u8 0, .int .u8 0], .agg #[.int .u8 1, .int .u8 0, .int .u8 0, .int .u8 0], .agg #[.int .u8 0, .int .u8 0, .int .u8 0], .agg #[.int .u8 2, .int .u8 0, .int .u8 0, .int .u8 0], .agg #[.int .u8 0, .int .u8 0, .int .u8 0], .agg #[.int .u8 3, .int .u8 0, .int .u8 0, .int .u8 0], .agg #[.int .u8 0, .int .u8 0, .int .u8 0], .agg #[.int .u8 4, .int .u8 0, .int .u8 0, .int .u8 0], .agg #[.int .u8 1, .int .u8 0, .int .u8 0], .agg #[.int .u8 5, .int .u8 1, .int .u8 0, .int .u8 0], .agg #[.int .u8 1, .int .u8 1, .int .u8 0], .agg #[.int .u8 7, .int .u8 1, .int .u8 1, .int .u8 0], .agg #[.int .u8 1, .int .u8 1, .int .u8 0], .agg #[.int .u8 8, .int .u8 1, .int .u8 1, .int .u8 0], .agg #[.int .u8 1, .int .u8 1, .int .u8 0], .agg #[.int .u8 9, .int .u8 1, .int .u8 1, .int .u8 0], .agg #[.int .u8 1, .int .u8 1, .int .u8 0], .agg #[.int .u8 10, .int .u8 1, .int .u8 1, .int .u8 0], .agg #[.int .u8 1, .int .u8 1, .int .u8 0], .agg #[.int .u8 11, .int .u8 1, .int .u8 1, .int .u8 0], .agg #[.int .u8 2, .int .u8 0, .int .u8 0], .agg #[.int .u8 6, .int .u8 2, .int .u8 0, .int .u8 0], .agg #[.int .u8 2, .int .u8 2, .int .u8 0], .agg #[.int .u8 16, .int .u8 2, .int .u8 2, .int .u8 0], .agg #[.int .u8 2, .int .u8 2, .int .u8 0], .agg #[.int .u8 17, .int .u8 2, .int .u8 2, .int .u8 0], .agg #[.int .u8 1, .int .u8 1, .int .u8 0], .agg #[.int .u8 12, .int .u8 1, .int .u8 1, .int .u8 0], .agg #[.int .u8 1, .int .u8 1, .int .u8 0], .agg #[.int .u8 13, .int .u8 1, .int .u8 1, .int .u8 0], .agg #[.int .u8 1, .int .u8 1, .int .u8 0], .agg #[.int .u8 14, .int .u8 1, .int .u8 1, .int .u8 0], .agg #[.int .u8 2, .int .u8 2, .int .u8 0], .agg #[.int .u8 14, .int .u8 2, .int .u8 2, .int .u8 0], .agg #[.int .u8 1, .int .u8 1, .int .u8 0], .agg #[.int .u8 15, .int .u8 1, .int .u8 1, .int .u8 0], .agg #[.int .u8 2, .int .u8 2, .int .u8 0], .agg #[.int .u8 15, .int .u8 2, .int .u8 2, .int .u8 0], .agg #[.int .u8 2, .int .u8 1, .int .u8 1], .agg #[.int .u8 18, .int .u8 2, .int .u8 1, .int .u8 1], .agg #[.int .u8 2, .int .u8 2, .int .u8 2], .agg #[.int .u8 18, .int .u8 2, .int .u8 2, .int .u8 2], undef], defers := [] } w) :
    wpAny Try.prog .any tOps Q 66 (Array.replicate 66 false) { tmps := #[.map none, undef, undef, undef, undef, undef, undef, undef, undef, undef, undef, undef, undef, undef, undef, undef, undef, undef, undef, undef, undef, undef, undef, undef, undef, undef, undef, undef, undef, undef, undef, undef, undef, undef, undef, undef, undef, undef, undef, undef, undef, undef, undef, undef, undef], defers := [] } w := by
  have hns : Region.noSelect tOps = true := by kernel_rfl
  refine wpAny_take (i := 1) (fuel := 65) (oi := { dst := some 2, op := .build 164 #[], type := 164, pos := pss, after := #[], guard := none }) (v := .agg #[.int .u8 0, .int .u8 0, .int .u8 0]) (by kernel_rfl) hns (by kernel_rfl) (by kernel_rfl) (fun c a w h => hQ c a _ _ w h) (Or.inl ⟨by kernel_rfl, fun _ => by kernel_rfl⟩) ?r1
  show wpAny Try.prog .any tOps Q 65 #[false, true, false, false, false, false, false, false, false, false, false, false, false, false, false, false, false, false, false, false, false, false, false, false, false, false, false, false, false, false, false, false, false, false, false, false, false, false, false, false, false, false, false, false, false, false, false, false, false, false, false, false, false, false, false, false, false, false, false, false, false, false, false, false, false, false] { tmps := #[.map none, undef, .agg #[.int .u8 0, .int .u8 0, .int .u8 0], undef, undef, undef, undef, undef, undef, undef, undef, undef, undef, undef, undef, undef, undef, undef, undef, undef, undef, undef, undef, undef, undef, undef, undef, undef, undef, undef, undef, undef, undef, undef, undef, undef, undef, undef, undef, undef, undef, undef, undef, undef, undef], defers := [] } w
  refine wpAny_take (i := 2) (fuel := 64) (oi := { dst := some 3, op := .build 166 #[(0, .const (.int .u8 1)), (1, .tmp 2)], type := 166, pos := pss, after := #[{ on := 1, ground := Ground.data }], guard := none }) (v := .agg #[.int .u8 1, .int .u8 0, .int .u8 0, .int .u8 0]) (by kernel_rfl) hns (by kernel_rfl) (by kernel_rfl) (fun c a w h => hQ c a _ _ w h) (Or.inl ⟨by kernel_rfl, fun _ => by kernel_rfl⟩) ?r2
  show wpAny Try.prog .any tOps Q 64 #[false, true, true, false, false, false, false, false, false, false, false, false, false, false, false, false, false, false, false, false, false, false, false, false, false, false, false, false, false, false, false, false, false, false, false, false, false, false, false, false, false, false, false, false, false, false, false, false, false, false, false, false, false, false, false, false, false, false, false, false, false, false, false, false, false, false] { tmps := #[.map none, undef, .agg #[.int .u8 0, .int .u8 0, .int .u8 0], .agg #[.int .u8 1, .int .u8 0, .int .u8 0, .int .u8 0], undef, undef, undef, undef, undef, undef, undef, undef, undef, undef, undef, undef, undef, undef, undef, undef, undef, undef, undef, undef, undef, undef, undef, undef, undef, undef, undef, undef, undef, undef, undef, undef, undef, undef, undef, undef, undef, undef, undef, undef, undef], defers := [] } w
  refine wpAny_take (i := 4) (fuel := 63) (oi := { dst := some 4, op := .build 164 #[], type := 164, pos := pss, after := #[], guard := none }) (v := .agg #[.int .u8 0, .int .u8 0, .int .u8 0]) (by kernel_rfl) hns (by kernel_rfl) (by kernel_rfl) (fun c a w h => hQ c a _ _ w h) (Or.inl ⟨by kernel_rfl, fun _ => by kernel_rfl⟩) ?r4
  show wpAny Try.prog .any tOps Q 63 #[false, true, true, false, true, false, false, false, false, false, false, false, false, false, false, false, false, false, false, false, false, false, false, false, false, false, false, false, false, false, false, false, false, false, false, false, false, false, false, false, false, false, false, false, false, false, false, false, false, false, false, false, false, false, false, false, false, false, false, false, false, false, false, false, false, false] { tmps := #[.map none, undef, .agg #[.int .u8 0, .int .u8 0, .int .u8 0], .agg #[.int .u8 1, .int .u8 0, .int .u8 0, .int .u8 0], .agg #[.int .u8 0, .int .u8 0, .int .u8 0], undef, undef, undef, undef, undef, undef, undef, undef, undef, undef, undef, undef, undef, undef, undef, undef, undef, undef, undef, undef, undef, undef, undef, undef, undef, undef, undef, undef, undef, undef, undef, undef, undef, undef, undef, undef, undef, undef, undef, undef], defers := [] } w
  refine wpAny_take (i := 5) (fuel := 62) (oi := { dst := some 5, op := .build 166 #[(0, .const (.int .u8 2)), (1, .tmp 4)], type := 166, pos := pss, after := #[{ on := 4, ground := Ground.data }], guard := none }) (v := .agg #[.int .u8 2, .int .u8 0, .int .u8 0, .int .u8 0]) (by kernel_rfl) hns (by kernel_rfl) (by kernel_rfl) (fun c a w h => hQ c a _ _ w h) (Or.inl ⟨by kernel_rfl, fun _ => by kernel_rfl⟩) ?r5
  show wpAny Try.prog .any tOps Q 62 #[false, true, true, false, true, true, false, false, false, false, false, false, false, false, false, false, false, false, false, false, false, false, false, false, false, false, false, false, false, false, false, false, false, false, false, false, false, false, false, false, false, false, false, false, false, false, false, false, false, false, false, false, false, false, false, false, false, false, false, false, false, false, false, false, false, false] { tmps := #[.map none, undef, .agg #[.int .u8 0, .int .u8 0, .int .u8 0], .agg #[.int .u8 1, .int .u8 0, .int .u8 0, .int .u8 0], .agg #[.int .u8 0, .int .u8 0, .int .u8 0], .agg #[.int .u8 2, .int .u8 0, .int .u8 0, .int .u8 0], undef, undef, undef, undef, undef, undef, undef, undef, undef, undef, undef, undef, undef, undef, undef, undef, undef, undef, undef, undef, undef, undef, undef, undef, undef, undef, undef, undef, undef, undef, undef, undef, undef, undef, undef, undef, undef, undef, undef], defers := [] } w
  refine wpAny_take (i := 7) (fuel := 61) (oi := { dst := some 6, op := .build 164 #[], type := 164, pos := pss, after := #[], guard := none }) (v := .agg #[.int .u8 0, .int .u8 0, .int .u8 0]) (by kernel_rfl) hns (by kernel_rfl) (by kernel_rfl) (fun c a w h => hQ c a _ _ w h) (Or.inl ⟨by kernel_rfl, fun _ => by kernel_rfl⟩) ?r7
  show wpAny Try.prog .any tOps Q 61 #[false, true, true, false, true, true, false, true, false, false, false, false, false, false, false, false, false, false, false, false, false, false, false, false, false, false, false, false, false, false, false, false, false, false, false, false, false, false, false, false, false, false, false, false, false, false, false, false, false, false, false, false, false, false, false, false, false, false, false, false, false, false, false, false, false, false] { tmps := #[.map none, undef, .agg #[.int .u8 0, .int .u8 0, .int .u8 0], .agg #[.int .u8 1, .int .u8 0, .int .u8 0, .int .u8 0], .agg #[.int .u8 0, .int .u8 0, .int .u8 0], .agg #[.int .u8 2, .int .u8 0, .int .u8 0, .int .u8 0], .agg #[.int .u8 0, .int .u8 0, .int .u8 0], undef, undef, undef, undef, undef, undef, undef, undef, undef, undef, undef, undef, undef, undef, undef, undef, undef, undef, undef, undef, undef, undef, undef, undef, undef, undef, undef, undef, undef, undef, undef, undef, undef, undef, undef, undef, undef, undef], defers := [] } w
  refine wpAny_take (i := 8) (fuel := 60) (oi := { dst := some 7, op := .build 166 #[(0, .const (.int .u8 3)), (1, .tmp 6)], type := 166, pos := pss, after := #[{ on := 7, ground := Ground.data }], guard := none }) (v := .agg #[.int .u8 3, .int .u8 0, .int .u8 0, .int .u8 0]) (by kernel_rfl) hns (by kernel_rfl) (by kernel_rfl) (fun c a w h => hQ c a _ _ w h) (Or.inl ⟨by kernel_rfl, fun _ => by kernel_rfl⟩) ?r8
  show wpAny Try.prog .any tOps Q 60 #[false, true, true, false, true, true, false, true, true, false, false, false, false, false, false, false, false, false, false, false, false, false, false, false, false, false, false, false, false, false, false, false, false, false, false, false, false, false, false, false, false, false, false, false, false, false, false, false, false, false, false, false, false, false, false, false, false, false, false, false, false, false, false, false, false, false] { tmps := #[.map none, undef, .agg #[.int .u8 0, .int .u8 0, .int .u8 0], .agg #[.int .u8 1, .int .u8 0, .int .u8 0, .int .u8 0], .agg #[.int .u8 0, .int .u8 0, .int .u8 0], .agg #[.int .u8 2, .int .u8 0, .int .u8 0, .int .u8 0], .agg #[.int .u8 0, .int .u8 0, .int .u8 0], .agg #[.int .u8 3, .int .u8 0, .int .u8 0, .int .u8 0], undef, undef, undef, undef, undef, undef, undef, undef, undef, undef, undef, undef, undef, undef, undef, undef, undef, undef, undef, undef, undef, undef, undef, undef, undef, undef, undef, undef, undef, undef, undef, undef, undef, undef, undef, undef, undef], defers := [] } w
  refine wpAny_take (i := 10) (fuel := 59) (oi := { dst := some 8, op := .build 164 #[], type := 164, pos := pss, after := #[], guard := none }) (v := .agg #[.int .u8 0, .int .u8 0, .int .u8 0]) (by kernel_rfl) hns (by kernel_rfl) (by kernel_rfl) (fun c a w h => hQ c a _ _ w h) (Or.inl ⟨by kernel_rfl, fun _ => by kernel_rfl⟩) ?r10
  show wpAny Try.prog .any tOps Q 59 #[false, true, true, false, true, true, false, true, true, false, true, false, false, false, false, false, false, false, false, false, false, false, false, false, false, false, false, false, false, false, false, false, false, false, false, false, false, false, false, false, false, false, false, false, false, false, false, false, false, false, false, false, false, false, false, false, false, false, false, false, false, false, false, false, false, false] { tmps := #[.map none, undef, .agg #[.int .u8 0, .int .u8 0, .int .u8 0], .agg #[.int .u8 1, .int .u8 0, .int .u8 0, .int .u8 0], .agg #[.int .u8 0, .int .u8 0, .int .u8 0], .agg #[.int .u8 2, .int .u8 0, .int .u8 0, .int .u8 0], .agg #[.int .u8 0, .int .u8 0, .int .u8 0], .agg #[.int .u8 3, .int .u8 0, .int .u8 0, .int .u8 0], .agg #[.int .u8 0, .int .u8 0, .int .u8 0], undef, undef, undef, undef, undef, undef, undef, undef, undef, undef, undef, undef, undef, undef, undef, undef, undef, undef, undef, undef, undef, undef, undef, undef, undef, undef, undef, undef, undef, undef, undef, undef, undef, undef, undef, undef], defers := [] } w
  refine wpAny_take (i := 11) (fuel := 58) (oi := { dst := some 9, op := .build 166 #[(0, .const (.int .u8 4)), (1, .tmp 8)], type := 166, pos := pss, after := #[{ on := 10, ground := Ground.data }], guard := none }) (v := .agg #[.int .u8 4, .int .u8 0, .int .u8 0, .int .u8 0]) (by kernel_rfl) hns (by kernel_rfl) (by kernel_rfl) (fun c a w h => hQ c a _ _ w h) (Or.inl ⟨by kernel_rfl, fun _ => by kernel_rfl⟩) ?r11
  show wpAny Try.prog .any tOps Q 58 #[false, true, true, false, true, true, false, true, true, false, true, true, false, false, false, false, false, false, false, false, false, false, false, false, false, false, false, false, false, false, false, false, false, false, false, false, false, false, false, false, false, false, false, false, false, false, false, false, false, false, false, false, false, false, false, false, false, false, false, false, false, false, false, false, false, false] { tmps := #[.map none, undef, .agg #[.int .u8 0, .int .u8 0, .int .u8 0], .agg #[.int .u8 1, .int .u8 0, .int .u8 0, .int .u8 0], .agg #[.int .u8 0, .int .u8 0, .int .u8 0], .agg #[.int .u8 2, .int .u8 0, .int .u8 0, .int .u8 0], .agg #[.int .u8 0, .int .u8 0, .int .u8 0], .agg #[.int .u8 3, .int .u8 0, .int .u8 0, .int .u8 0], .agg #[.int .u8 0, .int .u8 0, .int .u8 0], .agg #[.int .u8 4, .int .u8 0, .int .u8 0, .int .u8 0], undef, undef, undef, undef, undef, undef, undef, undef, undef, undef, undef, undef, undef, undef, undef, undef, undef, undef, undef, undef, undef, undef, undef, undef, undef, undef, undef, undef, undef, undef, undef, undef, undef, undef, undef], defers := [] } w
  refine wpAny_take (i := 13) (fuel := 57) (oi := { dst := some 10, op := .build 164 #[(0, .const (.int .u8 1))], type := 164, pos := pss, after := #[], guard := none }) (v := .agg #[.int .u8 1, .int .u8 0, .int .u8 0]) (by kernel_rfl) hns (by kernel_rfl) (by kernel_rfl) (fun c a w h => hQ c a _ _ w h) (Or.inl ⟨by kernel_rfl, fun _ => by kernel_rfl⟩) ?r13
  show wpAny Try.prog .any tOps Q 57 #[false, true, true, false, true, true, false, true, true, false, true, true, false, true, false, false, false, false, false, false, false, false, false, false, false, false, false, false, false, false, false, false, false, false, false, false, false, false, false, false, false, false, false, false, false, false, false, false, false, false, false, false, false, false, false, false, false, false, false, false, false, false, false, false, false, false] { tmps := #[.map none, undef, .agg #[.int .u8 0, .int .u8 0, .int .u8 0], .agg #[.int .u8 1, .int .u8 0, .int .u8 0, .int .u8 0], .agg #[.int .u8 0, .int .u8 0, .int .u8 0], .agg #[.int .u8 2, .int .u8 0, .int .u8 0, .int .u8 0], .agg #[.int .u8 0, .int .u8 0, .int .u8 0], .agg #[.int .u8 3, .int .u8 0, .int .u8 0, .int .u8 0], .agg #[.int .u8 0, .int .u8 0, .int .u8 0], .agg #[.int .u8 4, .int .u8 0, .int .u8 0, .int .u8 0], .agg #[.int .u8 1, .int .u8 0, .int .u8 0], undef, undef, undef, undef, undef, undef, undef, undef, undef, undef, undef, undef, undef, undef, undef, undef, undef, undef, undef, undef, undef, undef, undef, undef, undef, undef, undef, undef, undef, undef, undef, undef, undef, undef], defers := [] } w
  refine wpAny_take (i := 14) (fuel := 56) (oi := { dst := some 11, op := .build 166 #[(0, .const (.int .u8 5)), (1, .tmp 10)], type := 166, pos := pss, after := #[{ on := 13, ground := Ground.data }], guard := none }) (v := .agg #[.int .u8 5, .int .u8 1, .int .u8 0, .int .u8 0]) (by kernel_rfl) hns (by kernel_rfl) (by kernel_rfl) (fun c a w h => hQ c a _ _ w h) (Or.inl ⟨by kernel_rfl, fun _ => by kernel_rfl⟩) ?r14
  show wpAny Try.prog .any tOps Q 56 #[false, true, true, false, true, true, false, true, true, false, true, true, false, true, true, false, false, false, false, false, false, false, false, false, false, false, false, false, false, false, false, false, false, false, false, false, false, false, false, false, false, false, false, false, false, false, false, false, false, false, false, false, false, false, false, false, false, false, false, false, false, false, false, false, false, false] { tmps := #[.map none, undef, .agg #[.int .u8 0, .int .u8 0, .int .u8 0], .agg #[.int .u8 1, .int .u8 0, .int .u8 0, .int .u8 0], .agg #[.int .u8 0, .int .u8 0, .int .u8 0], .agg #[.int .u8 2, .int .u8 0, .int .u8 0, .int .u8 0], .agg #[.int .u8 0, .int .u8 0, .int .u8 0], .agg #[.int .u8 3, .int .u8 0, .int .u8 0, .int .u8 0], .agg #[.int .u8 0, .int .u8 0, .int .u8 0], .agg #[.int .u8 4, .int .u8 0, .int .u8 0, .int .u8 0], .agg #[.int .u8 1, .int .u8 0, .int .u8 0], .agg #[.int .u8 5, .int .u8 1, .int .u8 0, .int .u8 0], undef, undef, undef, undef, undef, undef, undef, undef, undef, undef, undef, undef, undef, undef, undef, undef, undef, undef, undef, undef, undef, undef, undef, undef, undef, undef, undef, undef, undef, undef, undef, undef, undef], defers := [] } w
  refine wpAny_take (i := 16) (fuel := 55) (oi := { dst := some 12, op := .build 164 #[(0, .const (.int .u8 1)), (1, .const (.int .u8 1))], type := 164, pos := pss, after := #[], guard := none }) (v := .agg #[.int .u8 1, .int .u8 1, .int .u8 0]) (by kernel_rfl) hns (by kernel_rfl) (by kernel_rfl) (fun c a w h => hQ c a _ _ w h) (Or.inl ⟨by kernel_rfl, fun _ => by kernel_rfl⟩) ?r16
  show wpAny Try.prog .any tOps Q 55 #[false, true, true, false, true, true, false, true, true, false, true, true, false, true, true, false, true, false, false, false, false, false, false, false, false, false, false, false, false, false, false, false, false, false, false, false, false, false, false, false, false, false, false, false, false, false, false, false, false, false, false, false, false, false, false, false, false, false, false, false, false, false, false, false, false, false] { tmps := #[.map none, undef, .agg #[.int .u8 0, .int .u8 0, .int .u8 0], .agg #[.int .u8 1, .int .u8 0, .int .u8 0, .int .u8 0], .agg #[.int .u8 0, .int .u8 0, .int .u8 0], .agg #[.int .u8 2, .int .u8 0, .int .u8 0, .int .u8 0], .agg #[.int .u8 0, .int .u8 0, .int .u8 0], .agg #[.int .u8 3, .int .u8 0, .int .u8 0, .int .u8 0], .agg #[.int .u8 0, .int .u8 0, .int .u8 0], .agg #[.int .u8 4, .int .u8 0, .int .u8 0, .int .u8 0], .agg #[.int .u8 1, .int .u8 0, .int .u8 0], .agg #[.int .u8 5, .int .u8 1, .int .u8 0, .int .u8 0], .agg #[.int .u8 1, .int .u8 1, .int .u8 0], undef, undef, undef, undef, undef, undef, undef, undef, undef, undef, undef, undef, undef, undef, undef, undef, undef, undef, undef, undef, undef, undef, undef, undef, undef, undef, undef, undef, undef, undef, undef, undef], defers := [] } w
  refine wpAny_take (i := 17) (fuel := 54) (oi := { dst := some 13, op := .build 166 #[(0, .const (.int .u8 7)), (1, .tmp 12)], type := 166, pos := pss, after := #[{ on := 16, ground := Ground.data }], guard := none }) (v := .agg #[.int .u8 7, .int .u8 1, .int .u8 1, .int .u8 0]) (by kernel_rfl) hns (by kernel_rfl) (by kernel_rfl) (fun c a w h => hQ c a _ _ w h) (Or.inl ⟨by kernel_rfl, fun _ => by kernel_rfl⟩) ?r17
  show wpAny Try.prog .any tOps Q 54 #[false, true, true, false, true, true, false, true, true, false, true, true, false, true, true, false, true, true, false, false, false, false, false, false, false, false, false, false, false, false, false, false, false, false, false, false, false, false, false, false, false, false, false, false, false, false, false, false, false, false, false, false, false, false, false, false, false, false, false, false, false, false, false, false, false, false] { tmps := #[.map none, undef, .agg #[.int .u8 0, .int .u8 0, .int .u8 0], .agg #[.int .u8 1, .int .u8 0, .int .u8 0, .int .u8 0], .agg #[.int .u8 0, .int .u8 0, .int .u8 0], .agg #[.int .u8 2, .int .u8 0, .int .u8 0, .int .u8 0], .agg #[.int .u8 0, .int .u8 0, .int .u8 0], .agg #[.int .u8 3, .int .u8 0, .int .u8 0, .int .u8 0], .agg #[.int .u8 0, .int .u8 0, .int .u8 0], .agg #[.int .u8 4, .int .u8 0, .int .u8 0, .int .u8 0], .agg #[.int .u8 1, .int .u8 0, .int .u8 0], .agg #[.int .u8 5, .int .u8 1, .int .u8 0, .int .u8 0], .agg #[.int .u8 1, .int .u8 1, .int .u8 0], .agg #[.int .u8 7, .int .u8 1, .int .u8 1, .int .u8 0], undef, undef, undef, undef, undef, undef, undef, undef, undef, undef, undef, undef, undef, undef, undef, undef, undef, undef, undef, undef, undef, undef, undef, undef, undef, undef, undef, undef, undef, undef, undef], defers := [] } w
  refine wpAny_take (i := 19) (fuel := 53) (oi := { dst := some 14, op := .build 164 #[(0, .const (.int .u8 1)), (1, .const (.int .u8 1))], type := 164, pos := pss, after := #[], guard := none }) (v := .agg #[.int .u8 1, .int .u8 1, .int .u8 0]) (by kernel_rfl) hns (by kernel_rfl) (by kernel_rfl) (fun c a w h => hQ c a _ _ w h) (Or.inl ⟨by kernel_rfl, fun _ => by kernel_rfl⟩) ?r19
  show wpAny Try.prog .any tOps Q 53 #[false, true, true, false, true, true, false, true, true, false, true, true, false, true, true, false, true, true, false, true, false, false, false, false, false, false, false, false, false, false, false, false, false, false, false, false, false, false, false, false, false, false, false, false, false, false, false, false, false, false, false, false, false, false, false, false, false, false, false, false, false, false, false, false, false, false] { tmps := #[.map none, undef, .agg #[.int .u8 0, .int .u8 0, .int .u8 0], .agg #[.int .u8 1, .int .u8 0, .int .u8 0, .int .u8 0], .agg #[.int .u8 0, .int .u8 0, .int .u8 0], .agg #[.int .u8 2, .int .u8 0, .int .u8 0, .int .u8 0], .agg #[.int .u8 0, .int .u8 0, .int .u8 0], .agg #[.int .u8 3, .int .u8 0, .int .u8 0, .int .u8 0], .agg #[.int .u8 0, .int .u8 0, .int .u8 0], .agg #[.int .u8 4, .int .u8 0, .int .u8 0, .int .u8 0], .agg #[.int .u8 1, .int .u8 0, .int .u8 0], .agg #[.int .u8 5, .int .u8 1, .int .u8 0, .int .u8 0], .agg #[.int .u8 1, .int .u8 1, .int .u8 0], .agg #[.int .u8 7, .int .u8 1, .int .u8 1, .int .u8 0], .agg #[.int .u8 1, .int .u8 1, .int .u8 0], undef, undef, undef, undef, undef, undef, undef, undef, undef, undef, undef, undef, undef, undef, undef, undef, undef, undef, undef, undef, undef, undef, undef, undef, undef, undef, undef, undef, undef, undef], defers := [] } w
  refine wpAny_take (i := 20) (fuel := 52) (oi := { dst := some 15, op := .build 166 #[(0, .const (.int .u8 8)), (1, .tmp 14)], type := 166, pos := pss, after := #[{ on := 19, ground := Ground.data }], guard := none }) (v := .agg #[.int .u8 8, .int .u8 1, .int .u8 1, .int .u8 0]) (by kernel_rfl) hns (by kernel_rfl) (by kernel_rfl) (fun c a w h => hQ c a _ _ w h) (Or.inl ⟨by kernel_rfl, fun _ => by kernel_rfl⟩) ?r20
  show wpAny Try.prog .any tOps Q 52 #[false, true, true, false, true, true, false, true, true, false, true, true, false, true, true, false, true, true, false, true, true, false, false, false, false, false, false, false, false, false, false, false, false, false, false, false, false, false, false, false, false, false, false, false, false, false, false, false, false, false, false, false, false, false, false, false, false, false, false, false, false, false, false, false, false, false] { tmps := #[.map none, undef, .agg #[.int .u8 0, .int .u8 0, .int .u8 0], .agg #[.int .u8 1, .int .u8 0, .int .u8 0, .int .u8 0], .agg #[.int .u8 0, .int .u8 0, .int .u8 0], .agg #[.int .u8 2, .int .u8 0, .int .u8 0, .int .u8 0], .agg #[.int .u8 0, .int .u8 0, .int .u8 0], .agg #[.int .u8 3, .int .u8 0, .int .u8 0, .int .u8 0], .agg #[.int .u8 0, .int .u8 0, .int .u8 0], .agg #[.int .u8 4, .int .u8 0, .int .u8 0, .int .u8 0], .agg #[.int .u8 1, .int .u8 0, .int .u8 0], .agg #[.int .u8 5, .int .u8 1, .int .u8 0, .int .u8 0], .agg #[.int .u8 1, .int .u8 1, .int .u8 0], .agg #[.int .u8 7, .int .u8 1, .int .u8 1, .int .u8 0], .agg #[.int .u8 1, .int .u8 1, .int .u8 0], .agg #[.int .u8 8, .int .u8 1, .int .u8 1, .int .u8 0], undef, undef, undef, undef, undef, undef, undef, undef, undef, undef, undef, undef, undef, undef, undef, undef, undef, undef, undef, undef, undef, undef, undef, undef, undef, undef, undef, undef, undef], defers := [] } w
  refine wpAny_take (i := 22) (fuel := 51) (oi := { dst := some 16, op := .build 164 #[(0, .const (.int .u8 1)), (1, .const (.int .u8 1))], type := 164, pos := pss, after := #[], guard := none }) (v := .agg #[.int .u8 1, .int .u8 1, .int .u8 0]) (by kernel_rfl) hns (by kernel_rfl) (by kernel_rfl) (fun c a w h => hQ c a _ _ w h) (Or.inl ⟨by kernel_rfl, fun _ => by kernel_rfl⟩) ?r22
  show wpAny Try.prog .any tOps Q 51 #[false, true, true, false, true, true, false, true, true, false, true, true, false, true, true, false, true, true, false, true, true, false, true, false, false, false, false, false, false, false, false, false, false, false, false, false, false, false, false, false, false, false, false, false, false, false, false, false, false, false, false, false, false, false, false, false, false, false, false, false, false, false, false, false, false, false] { tmps := #[.map none, undef, .agg #[.int .u8 0, .int .u8 0, .int .u8 0], .agg #[.int .u8 1, .int .u8 0, .int .u8 0, .int .u8 0], .agg #[.int .u8 0, .int .u8 0, .int .u8 0], .agg #[.int .u8 2, .int .u8 0, .int .u8 0, .int .u8 0], .agg #[.int .u8 0, .int .u8 0, .int .u8 0], .agg #[.int .u8 3, .int .u8 0, .int .u8 0, .int .u8 0], .agg #[.int .u8 0, .int .u8 0, .int .u8 0], .agg #[.int .u8 4, .int .u8 0, .int .u8 0, .int .u8 0], .agg #[.int .u8 1, .int .u8 0, .int .u8 0], .agg #[.int .u8 5, .int .u8 1, .int .u8 0, .int .u8 0], .agg #[.int .u8 1, .int .u8 1, .int .u8 0], .agg #[.int .u8 7, .int .u8 1, .int .u8 1, .int .u8 0], .agg #[.int .u8 1, .int .u8 1, .int .u8 0], .agg #[.int .u8 8, .int .u8 1, .int .u8 1, .int .u8 0], .agg #[.int .u8 1, .int .u8 1, .int .u8 0], undef, undef, undef, undef, undef, undef, undef, undef, undef, undef, undef, undef, undef, undef, undef, undef, undef, undef, undef, undef, undef, undef, undef, undef, undef, undef, undef, undef], defers := [] } w
  refine wpAny_take (i := 23) (fuel := 50) (oi := { dst := some 17, op := .build 166 #[(0, .const (.int .u8 9)), (1, .tmp 16)], type := 166, pos := pss, after := #[{ on := 22, ground := Ground.data }], guard := none }) (v := .agg #[.int .u8 9, .int .u8 1, .int .u8 1, .int .u8 0]) (by kernel_rfl) hns (by kernel_rfl) (by kernel_rfl) (fun c a w h => hQ c a _ _ w h) (Or.inl ⟨by kernel_rfl, fun _ => by kernel_rfl⟩) ?r23
  show wpAny Try.prog .any tOps Q 50 #[false, true, true, false, true, true, false, true, true, false, true, true, false, true, true, false, true, true, false, true, true, false, true, true, false, false, false, false, false, false, false, false, false, false, false, false, false, false, false, false, false, false, false, false, false, false, false, false, false, false, false, false, false, false, false, false, false, false, false, false, false, false, false, false, false, false] { tmps := #[.map none, undef, .agg #[.int .u8 0, .int .u8 0, .int .u8 0], .agg #[.int .u8 1, .int .u8 0, .int .u8 0, .int .u8 0], .agg #[.int .u8 0, .int .u8 0, .int .u8 0], .agg #[.int .u8 2, .int .u8 0, .int .u8 0, .int .u8 0], .agg #[.int .u8 0, .int .u8 0, .int .u8 0], .agg #[.int .u8 3, .int .u8 0, .int .u8 0, .int .u8 0], .agg #[.int .u8 0, .int .u8 0, .int .u8 0], .agg #[.int .u8 4, .int .u8 0, .int .u8 0, .int .u8 0], .agg #[.int .u8 1, .int .u8 0, .int .u8 0], .agg #[.int .u8 5, .int .u8 1, .int .u8 0, .int .u8 0], .agg #[.int .u8 1, .int .u8 1, .int .u8 0], .agg #[.int .u8 7, .int .u8 1, .int .u8 1, .int .u8 0], .agg #[.int .u8 1, .int .u8 1, .int .u8 0], .agg #[.int .u8 8, .int .u8 1, .int .u8 1, .int .u8 0], .agg #[.int .u8 1, .int .u8 1, .int .u8 0], .agg #[.int .u8 9, .int .u8 1, .int .u8 1, .int .u8 0], undef, undef, undef, undef, undef, undef, undef, undef, undef, undef, undef, undef, undef, undef, undef, undef, undef, undef, undef, undef, undef, undef, undef, undef, undef, undef, undef], defers := [] } w
  refine wpAny_take (i := 25) (fuel := 49) (oi := { dst := some 18, op := .build 164 #[(0, .const (.int .u8 1)), (1, .const (.int .u8 1))], type := 164, pos := pss, after := #[], guard := none }) (v := .agg #[.int .u8 1, .int .u8 1, .int .u8 0]) (by kernel_rfl) hns (by kernel_rfl) (by kernel_rfl) (fun c a w h => hQ c a _ _ w h) (Or.inl ⟨by kernel_rfl, fun _ => by kernel_rfl⟩) ?r25
  show wpAny Try.prog .any tOps Q 49 #[false, true, true, false, true, true, false, true, true, false, true, true, false, true, true, false, true, true, false, true, true, false, true, true, false, true, false, false, false, false, false, false, false, false, false, false, false, false, false, false, false, false, false, false, false, false, false, false, false, false, false, false, false, false, false, false, false, false, false, false, false, false, false, false, false, false] { tmps := #[.map none, undef, .agg #[.int .u8 0, .int .u8 0, .int .u8 0], .agg #[.int .u8 1, .int .u8 0, .int .u8 0, .int .u8 0], .agg #[.int .u8 0, .int .u8 0, .int .u8 0], .agg #[.int .u8 2, .int .u8 0, .int .u8 0, .int .u8 0], .agg #[.int .u8 0, .int .u8 0, .int .u8 0], .agg #[.int .u8 3, .int .u8 0, .int .u8 0, .int .u8 0], .agg #[.int .u8 0, .int .u8 0, .int .u8 0], .agg #[.int .u8 4, .int .u8 0, .int .u8 0, .int .u8 0], .agg #[.int .u8 1, .int .u8 0, .int .u8 0], .agg #[.int .u8 5, .int .u8 1, .int .u8 0, .int .u8 0], .agg #[.int .u8 1, .int .u8 1, .int .u8 0], .agg #[.int .u8 7, .int .u8 1, .int .u8 1, .int .u8 0], .agg #[.int .u8 1, .int .u8 1, .int .u8 0], .agg #[.int .u8 8, .int .u8 1, .int .u8 1, .int .u8 0], .agg #[.int .u8 1, .int .u8 1, .int .u8 0], .agg #[.int .u8 9, .int .u8 1, .int .u8 1, .int .u8 0], .agg #[.int .u8 1, .int .u8 1, .int .u8 0], undef, undef, undef, undef, undef, undef, undef, undef, undef, undef, undef, undef, undef, undef, undef, undef, undef, undef, undef, undef, undef, undef, undef, undef, undef, undef], defers := [] } w
  refine wpAny_take (i := 26) (fuel := 48) (oi := { dst := some 19, op := .build 166 #[(0, .const (.int .u8 10)), (1, .tmp 18)], type := 166, pos := pss, after := #[{ on := 25, ground := Ground.data }], guard := none }) (v := .agg #[.int .u8 10, .int .u8 1, .int .u8 1, .int .u8 0]) (by kernel_rfl) hns (by kernel_rfl) (by kernel_rfl) (fun c a w h => hQ c a _ _ w h) (Or.inl ⟨by kernel_rfl, fun _ => by kernel_rfl⟩) ?r26
  show wpAny Try.prog .any tOps Q 48 #[false, true, true, false, true, true, false, true, true, false, true, true, false, true, true, false, true, true, false, true, true, false, true, true, false, true, true, false, false, false, false, false, false, false, false, false, false, false, false, false, false, false, false, false, false, false, false, false, false, false, false, false, false, false, false, false, false, false, false, false, false, false, false, false, false, false] { tmps := #[.map none, undef, .agg #[.int .u8 0, .int .u8 0, .int .u8 0], .agg #[.int .u8 1, .int .u8 0, .int .u8 0, .int .u8 0], .agg #[.int .u8 0, .int .u8 0, .int .u8 0], .agg #[.int .u8 2, .int .u8 0, .int .u8 0, .int .u8 0], .agg #[.int .u8 0, .int .u8 0, .int .u8 0], .agg #[.int .u8 3, .int .u8 0, .int .u8 0, .int .u8 0], .agg #[.int .u8 0, .int .u8 0, .int .u8 0], .agg #[.int .u8 4, .int .u8 0, .int .u8 0, .int .u8 0], .agg #[.int .u8 1, .int .u8 0, .int .u8 0], .agg #[.int .u8 5, .int .u8 1, .int .u8 0, .int .u8 0], .agg #[.int .u8 1, .int .u8 1, .int .u8 0], .agg #[.int .u8 7, .int .u8 1, .int .u8 1, .int .u8 0], .agg #[.int .u8 1, .int .u8 1, .int .u8 0], .agg #[.int .u8 8, .int .u8 1, .int .u8 1, .int .u8 0], .agg #[.int .u8 1, .int .u8 1, .int .u8 0], .agg #[.int .u8 9, .int .u8 1, .int .u8 1, .int .u8 0], .agg #[.int .u8 1, .int .u8 1, .int .u8 0], .agg #[.int .u8 10, .int .u8 1, .int .u8 1, .int .u8 0], undef, undef, undef, undef, undef, undef, undef, undef, undef, undef, undef, undef, undef, undef, undef, undef, undef, undef, undef, undef, undef, undef, undef, undef, undef], defers := [] } w
  refine wpAny_take (i := 28) (fuel := 47) (oi := { dst := some 20, op := .build 164 #[(0, .const (.int .u8 1)), (1, .const (.int .u8 1))], type := 164, pos := pss, after := #[], guard := none }) (v := .agg #[.int .u8 1, .int .u8 1, .int .u8 0]) (by kernel_rfl) hns (by kernel_rfl) (by kernel_rfl) (fun c a w h => hQ c a _ _ w h) (Or.inl ⟨by kernel_rfl, fun _ => by kernel_rfl⟩) ?r28
  show wpAny Try.prog .any tOps Q 47 #[false, true, true, false, true, true, false, true, true, false, true, true, false, true, true, false, true, true, false, true, true, false, true, true, false, true, true, false, true, false, false, false, false, false, false, false, false, false, false, false, false, false, false, false, false, false, false, false, false, false, false, false, false, false, false, false, false, false, false, false, false, false, false, false, false, false] { tmps := #[.map none, undef, .agg #[.int .u8 0, .int .u8 0, .int .u8 0], .agg #[.int .u8 1, .int .u8 0, .int .u8 0, .int .u8 0], .agg #[.int .u8 0, .int .u8 0, .int .u8 0], .agg #[.int .u8 2, .int .u8 0, .int .u8 0, .int .u8 0], .agg #[.int .u8 0, .int .u8 0, .int .u8 0], .agg #[.int .u8 3, .int .u8 0, .int .u8 0, .int .u8 0], .agg #[.int .u8 0, .int .u8 0, .int .u8 0], .agg #[.int .u8 4, .int .u8 0, .int .u8 0, .int .u8 0], .agg #[.int .u8 1, .int .u8 0, .int .u8 0], .agg #[.int .u8 5, .int .u8 1, .int .u8 0, .int .u8 0], .agg #[.int .u8 1, .int .u8 1, .int .u8 0], .agg #[.int .u8 7, .int .u8 1, .int .u8 1, .int .u8 0], .agg #[.int .u8 1, .int .u8 1, .int .u8 0], .agg #[.int .u8 8, .int .u8 1, .int .u8 1, .int .u8 0], .agg #[.int .u8 1, .int .u8 1, .int .u8 0], .agg #[.int .u8 9, .int .u8 1, .int .u8 1, .int .u8 0], .agg #[.int .u8 1, .int .u8 1, .int .u8 0], .agg #[.int .u8 10, .int .u8 1, .int .u8 1, .int .u8 0], .agg #[.int .u8 1, .int .u8 1, .int .u8 0], undef, undef, undef, undef, undef, undef, undef, undef, undef, undef, undef, undef, undef, undef, undef, undef, undef, undef, undef, undef, undef, undef, undef, undef], defers := [] } w
  refine wpAny_take (i := 29) (fuel := 46) (oi := { dst := some 21, op := .build 166 #[(0, .const (.int .u8 11)), (1, .tmp 20)], type := 166, pos := pss, after := #[{ on := 28, ground := Ground.data }], guard := none }) (v := .agg #[.int .u8 11, .int .u8 1, .int .u8 1, .int .u8 0]) (by kernel_rfl) hns (by kernel_rfl) (by kernel_rfl) (fun c a w h => hQ c a _ _ w h) (Or.inl ⟨by kernel_rfl, fun _ => by kernel_rfl⟩) ?r29
  show wpAny Try.prog .any tOps Q 46 #[false, true, true, false, true, true, false, true, true, false, true, true, false, true, true, false, true, true, false, true, true, false, true, true, false, true, true, false, true, true, false, false, false, false, false, false, false, false, false, false, false, false, false, false, false, false, false, false, false, false, false, false, false, false, false, false, false, false, false, false, false, false, false, false, false, false] { tmps := #[.map none, undef, .agg #[.int .u8 0, .int .u8 0, .int .u8 0], .agg #[.int .u8 1, .int .u8 0, .int .u8 0, .int .u8 0], .agg #[.int .u8 0, .int .u8 0, .int .u8 0], .agg #[.int .u8 2, .int .u8 0, .int .u8 0, .int .u8 0], .agg #[.int .u8 0, .int .u8 0, .int .u8 0], .agg #[.int .u8 3, .int .u8 0, .int .u8 0, .int .u8 0], .agg #[.int .u8 0, .int .u8 0, .int .u8 0], .agg #[.int .u8 4, .int .u8 0, .int .u8 0, .int .u8 0], .agg #[.int .u8 1, .int .u8 0, .int .u8 0], .agg #[.int .u8 5, .int .u8 1, .int .u8 0, .int .u8 0], .agg #[.int .u8 1, .int .u8 1, .int .u8 0], .agg #[.int .u8 7, .int .u8 1, .int .u8 1, .int .u8 0], .agg #[.int .u8 1, .int .u8 1, .int .u8 0], .agg #[.int .u8 8, .int .u8 1, .int .u8 1, .int .u8 0], .agg #[.int .u8 1, .int .u8 1, .int .u8 0], .agg #[.int .u8 9, .int .u8 1, .int .u8 1, .int .u8 0], .agg #[.int .u8 1, .int .u8 1, .int .u8 0], .agg #[.int .u8 10, .int .u8 1, .int .u8 1, .int .u8 0], .agg #[.int .u8 1, .int .u8 1, .int .u8 0], .agg #[.int .u8 11, .int .u8 1, .int .u8 1, .int .u8 0], undef, undef, undef, undef, undef, undef, undef, undef, undef, undef, undef, undef, undef, undef, undef, undef, undef, undef, undef, undef, undef, undef, undef], defers := [] } w
  refine wpAny_take (i := 31) (fuel := 45) (oi := { dst := some 22, op := .build 164 #[(0, .const (.int .u8 2))], type := 164, pos := pss, after := #[], guard := none }) (v := .agg #[.int .u8 2, .int .u8 0, .int .u8 0]) (by kernel_rfl) hns (by kernel_rfl) (by kernel_rfl) (fun c a w h => hQ c a _ _ w h) (Or.inl ⟨by kernel_rfl, fun _ => by kernel_rfl⟩) ?r31
  show wpAny Try.prog .any tOps Q 45 #[false, true, true, false, true, true, false, true, true, false, true, true, false, true, true, false, true, true, false, true, true, false, true, true, false, true, true, false, true, true, false, true, false, false, false, false, false, false, false, false, false, false, false, false, false, false, false, false, false, false, false, false, false, false, false, false, false, false, false, false, false, false, false, false, false, false] { tmps := #[.map none, undef, .agg #[.int .u8 0, .int .u8 0, .int .u8 0], .agg #[.int .u8 1, .int .u8 0, .int .u8 0, .int .u8 0], .agg #[.int .u8 0, .int .u8 0, .int .u8 0], .agg #[.int .u8 2, .int .u8 0, .int .u8 0, .int .u8 0], .agg #[.int .u8 0, .int .u8 0, .int .u8 0], .agg #[.int .u8 3, .int .u8 0, .int .u8 0, .int .u8 0], .agg #[.int .u8 0, .int .u8 0, .int .u8 0], .agg #[.int .u8 4, .int .u8 0, .int .u8 0, .int .u8 0], .agg #[.int .u8 1, .int .u8 0, .int .u8 0], .agg #[.int .u8 5, .int .u8 1, .int .u8 0, .int .u8 0], .agg #[.int .u8 1, .int .u8 1, .int .u8 0], .agg #[.int .u8 7, .int .u8 1, .int .u8 1, .int .u8 0], .agg #[.int .u8 1, .int .u8 1, .int .u8 0], .agg #[.int .u8 8, .int .u8 1, .int .u8 1, .int .u8 0], .agg #[.int .u8 1, .int .u8 1, .int .u8 0], .agg #[.int .u8 9, .int .u8 1, .int .u8 1, .int .u8 0], .agg #[.int .u8 1, .int .u8 1, .int .u8 0], .agg #[.int .u8 10, .int .u8 1, .int .u8 1, .int .u8 0], .agg #[.int .u8 1, .int .u8 1, .int .u8 0], .agg #[.int .u8 11, .int .u8 1, .int .u8 1, .int .u8 0], .agg #[.int .u8 2, .int .u8 0, .int .u8 0], undef, undef, undef, undef, undef, undef, undef, undef, undef, undef, undef, undef, undef, undef, undef, undef, undef, undef, undef, undef, undef, undef], defers := [] } w
  refine wpAny_take (i := 32) (fuel := 44) (oi := { dst := some 23, op := .build 166 #[(0, .const (.int .u8 6)), (1, .tmp 22)], type := 166, pos := pss, after := #[{ on := 31, ground := Ground.data }], guard := none }) (v := .agg #[.int .u8 6, .int .u8 2, .int .u8 0, .int .u8 0]) (by kernel_rfl) hns (by kernel_rfl) (by kernel_rfl) (fun c a w h => hQ c a _ _ w h) (Or.inl ⟨by kernel_rfl, fun _ => by kernel_rfl⟩) ?r32
  show wpAny Try.prog .any tOps Q 44 #[false, true, true, false, true, true, false, true, true, false, true, true, false, true, true, false, true, true, false, true, true, false, true, true, false, true, true, false, true, true, false, true, true, false, false, false, false, false, false, false, false, false, false, false, false, false, false, false, false, false, false, false, false, false, false, false, false, false, false, false, false, false, false, false, false, false] { tmps := #[.map none, undef, .agg #[.int .u8 0, .int .u8 0, .int .u8 0], .agg #[.int .u8 1, .int .u8 0, .int .u8 0, .int .u8 0], .agg #[.int .u8 0, .int .u8 0, .int .u8 0], .agg #[.int .u8 2, .int .u8 0, .int .u8 0, .int .u8 0], .agg #[.int .u8 0, .int .u8 0, .int .u8 0], .agg #[.int .u8 3, .int .u8 0, .int .u8 0, .int .u8 0], .agg #[.int .u8 0, .int .u8 0, .int .u8 0], .agg #[.int .u8 4, .int .u8 0, .int .u8 0, .int .u8 0], .agg #[.int .u8 1, .int .u8 0, .int .u8 0], .agg #[.int .u8 5, .int .u8 1, .int .u8 0, .int .u8 0], .agg #[.int .u8 1, .int .u8 1, .int .u8 0], .agg #[.int .u8 7, .int .u8 1, .int .u8 1, .int .u8 0], .agg #[.int .u8 1, .int .u8 1, .int .u8 0], .agg #[.int .u8 8, .int .u8 1, .int .u8 1, .int .u8 0], .agg #[.int .u8 1, .int .u8 1, .int .u8 0], .agg #[.int .u8 9, .int .u8 1, .int .u8 1, .int .u8 0], .agg #[.int .u8 1, .int .u8 1, .int .u8 0], .agg #[.int .u8 10, .int .u8 1, .int .u8 1, .int .u8 0], .agg #[.int .u8 1, .int .u8 1, .int .u8 0], .agg #[.int .u8 11, .int .u8 1, .int .u8 1, .int .u8 0], .agg #[.int .u8 2, .int .u8 0, .int .u8 0], .agg #[.int .u8 6, .int .u8 2, .int .u8 0, .int .u8 0], undef, undef, undef, undef, undef, undef, undef, undef, undef, undef, undef, undef, undef, undef, undef, undef, undef, undef, undef, undef, undef], defers := [] } w
  refine wpAny_take (i := 34) (fuel := 43) (oi := { dst := some 24, op := .build 164 #[(0, .const (.int .u8 2)), (1, .const (.int .u8 2))], type := 164, pos := pss, after := #[], guard := none }) (v := .agg #[.int .u8 2, .int .u8 2, .int .u8 0]) (by kernel_rfl) hns (by kernel_rfl) (by kernel_rfl) (fun c a w h => hQ c a _ _ w h) (Or.inl ⟨by kernel_rfl, fun _ => by kernel_rfl⟩) ?r34
  show wpAny Try.prog .any tOps Q 43 #[false, true, true, false, true, true, false, true, true, false, true, true, false, true, true, false, true, true, false, true, true, false, true, true, false, true, true, false, true, true, false, true, true, false, true, false, false, false, false, false, false, false, false, false, false, false, false, false, false, false, false, false, false, false, false, false, false, false, false, false, false, false, false, false, false, false] { tmps := #[.map none, undef, .agg #[.int .u8 0, .int .u8 0, .int .u8 0], .agg #[.int .u8 1, .int .u8 0, .int .u8 0, .int .u8 0], .agg #[.int .u8 0, .int .u8 0, .int .u8 0], .agg #[.int .u8 2, .int .u8 0, .int .u8 0, .int .u8 0], .agg #[.int .u8 0, .int .u8 0, .int .u8 0], .agg #[.int .u8 3, .int .u8 0, .int .u8 0, .int .u8 0], .agg #[.int .u8 0, .int .u8 0, .int .u8 0], .agg #[.int .u8 4, .int .u8 0, .int .u8 0, .int .u8 0], .agg #[.int .u8 1, .int .u8 0, .int .u8 0], .agg #[.int .u8 5, .int .u8 1, .int .u8 0, .int .u8 0], .agg #[.int .u8 1, .int .u8 1, .int .u8 0], .agg #[.int .u8 7, .int .u8 1, .int .u8 1, .int .u8 0], .agg #[.int .u8 1, .int .u8 1, .int .u8 0], .agg #[.int .u8 8, .int .u8 1, .int .u8 1, .int .u8 0], .agg #[.int .u8 1, .int .u8 1, .int .u8 0], .agg #[.int .u8 9, .int .u8 1, .int .u8 1, .int .u8 0], .agg #[.int .u8 1, .int .u8 1, .int .u8 0], .agg #[.int .u8 10, .int .u8 1, .int .u8 1, .int .u8 0], .agg #[.int .u8 1, .int .u8 1, .int .u8 0], .agg #[.int .u8 11, .int .u8 1, .int .u8 1, .int .u8 0], .agg #[.int .u8 2, .int .u8 0, .int .u8 0], .agg #[.int .u8 6, .int .u8 2, .int .u8 0, .int .u8 0], .agg #[.int .u8 2, .int .u8 2, .int .u8 0], undef, undef, undef, undef, undef, undef, undef, undef, undef, undef, undef, undef, undef, undef, undef, undef, undef, undef, undef, undef], defers := [] } w
  refine wpAny_take (i := 35) (fuel := 42) (oi := { dst := some 25, op := .build 166 #[(0, .const (.int .u8 16)), (1, .tmp 24)], type := 166, pos := pss, after := #[{ on := 34, ground := Ground.data }], guard := none }) (v := .agg #[.int .u8 16, .int .u8 2, .int .u8 2, .int .u8 0]) (by kernel_rfl) hns (by kernel_rfl) (by kernel_rfl) (fun c a w h => hQ c a _ _ w h) (Or.inl ⟨by kernel_rfl, fun _ => by kernel_rfl⟩) ?r35
  show wpAny Try.prog .any tOps Q 42 #[false, true, true, false, true, true, false, true, true, false, true, true, false, true, true, false, true, true, false, true, true, false, true, true, false, true, true, false, true, true, false, true, true, false, true, true, false, false, false, false, false, false, false, false, false, false, false, false, false, false, false, false, false, false, false, false, false, false, false, false, false, false, false, false, false, false] { tmps := #[.map none, undef, .agg #[.int .u8 0, .int .u8 0, .int .u8 0], .agg #[.int .u8 1, .int .u8 0, .int .u8 0, .int .u8 0], .agg #[.int .u8 0, .int .u8 0, .int .u8 0], .agg #[.int .u8 2, .int .u8 0, .int .u8 0, .int .u8 0], .agg #[.int .u8 0, .int .u8 0, .int .u8 0], .agg #[.int .u8 3, .int .u8 0, .int .u8 0, .int .u8 0], .agg #[.int .u8 0, .int .u8 0, .int .u8 0], .agg #[.int .u8 4, .int .u8 0, .int .u8 0, .int .u8 0], .agg #[.int .u8 1, .int .u8 0, .int .u8 0], .agg #[.int .u8 5, .int .u8 1, .int .u8 0, .int .u8 0], .agg #[.int .u8 1, .int .u8 1, .int .u8 0], .agg #[.int .u8 7, .int .u8 1, .int .u8 1, .int .u8 0], .agg #[.int .u8 1, .int .u8 1, .int .u8 0], .agg #[.int .u8 8, .int .u8 1, .int .u8 1, .int .u8 0], .agg #[.int .u8 1, .int .u8 1, .int .u8 0], .agg #[.int .u8 9, .int .u8 1, .int .u8 1, .int .u8 0], .agg #[.int .u8 1, .int .u8 1, .int .u8 0], .agg #[.int .u8 10, .int .u8 1, .int .u8 1, .int .u8 0], .agg #[.int .u8 1, .int .u8 1, .int .u8 0], .agg #[.int .u8 11, .int .u8 1, .int .u8 1, .int .u8 0], .agg #[.int .u8 2, .int .u8 0, .int .u8 0], .agg #[.int .u8 6, .int .u8 2, .int .u8 0, .int .u8 0], .agg #[.int .u8 2, .int .u8 2, .int .u8 0], .agg #[.int .u8 16, .int .u8 2, .int .u8 2, .int .u8 0], undef, undef, undef, undef, undef, undef, undef, undef, undef, undef, undef, undef, undef, undef, undef, undef, undef, undef, undef], defers := [] } w
  refine wpAny_take (i := 37) (fuel := 41) (oi := { dst := some 26, op := .build 164 #[(0, .const (.int .u8 2)), (1, .const (.int .u8 2))], type := 164, pos := pss, after := #[], guard := none }) (v := .agg #[.int .u8 2, .int .u8 2, .int .u8 0]) (by kernel_rfl) hns (by kernel_rfl) (by kernel_rfl) (fun c a w h => hQ c a _ _ w h) (Or.inl ⟨by kernel_rfl, fun _ => by kernel_rfl⟩) ?r37
  show wpAny Try.prog .any tOps Q 41 #[false, true, true, false, true, true, false, true, true, false, true, true, false, true, true, false, true, true, false, true, true, false, true, true, false, true, true, false, true, true, false, true, true, false, true, true, false, true, false, false, false, false, false, false, false, false, false, false, false, false, false, false, false, false, false, false, false, false, false, false, false, false, false, false, false, false] { tmps := #[.map none, undef, .agg #[.int .u8 0, .int .u8 0, .int .u8 0], .agg #[.int .u8 1, .int .u8 0, .int .u8 0, .int .u8 0], .agg #[.int .u8 0, .int .u8 0, .int .u8 0], .agg #[.int .u8 2, .int .u8 0, .int .u8 0, .int .u8 0], .agg #[.int .u8 0, .int .u8 0, .int .u8 0], .agg #[.int .u8 3, .int .u8 0, .int .u8 0, .int .u8 0], .agg #[.int .u8 0, .int .u8 0, .int .u8 0], .agg #[.int .u8 4, .int .u8 0, .int .u8 0, .int .u8 0], .agg #[.int .u8 1, .int .u8 0, .int .u8 0], .agg #[.int .u8 5, .int .u8 1, .int .u8 0, .int .u8 0], .agg #[.int .u8 1, .int .u8 1, .int .u8 0], .agg #[.int .u8 7, .int .u8 1, .int .u8 1, .int .u8 0], .agg #[.int .u8 1, .int .u8 1, .int .u8 0], .agg #[.int .u8 8, .int .u8 1, .int .u8 1, .int .u8 0], .agg #[.int .u8 1, .int .u8 1, .int .u8 0], .agg #[.int .u8 9, .int .u8 1, .int .u8 1, .int .u8 0], .agg #[.int .u8 1, .int .u8 1, .int .u8 0], .agg #[.int .u8 10, .int .u8 1, .int .u8 1, .int .u8 0], .agg #[.int .u8 1, .int .u8 1, .int .u8 0], .agg #[.int .u8 11, .int .u8 1, .int .u8 1, .int .u8 0], .agg #[.int .u8 2, .int .u8 0, .int .u8 0], .agg #[.int .u8 6, .int .u8 2, .int .u8 0, .int .u8 0], .agg #[.int .u8 2, .int .u8 2, .int .u8 0], .agg #[.int .u8 16, .int .u8 2, .int .u8 2, .int .u8 0], .agg #[.int .u8 2, .int .u8 2, .int .u8 0], undef, undef, undef, undef, undef, undef, undef, undef, undef, undef, undef, undef, undef, undef, undef, undef, undef, undef], defers := [] } w
  refine wpAny_take (i := 38) (fuel := 40) (oi := { dst := some 27, op := .build 166 #[(0, .const (.int .u8 17)), (1, .tmp 26)], type := 166, pos := pss, after := #[{ on := 37, ground := Ground.data }], guard := none }) (v := .agg #[.int .u8 17, .int .u8 2, .int .u8 2, .int .u8 0]) (by kernel_rfl) hns (by kernel_rfl) (by kernel_rfl) (fun c a w h => hQ c a _ _ w h) (Or.inl ⟨by kernel_rfl, fun _ => by kernel_rfl⟩) ?r38
  show wpAny Try.prog .any tOps Q 40 #[false, true, true, false, true, true, false, true, true, false, true, true, false, true, true, false, true, true, false, true, true, false, true, true, false, true, true, false, true, true, false, true, true, false, true, true, false, true, true, false, false, false, false, false, false, false, false, false, false, false, false, false, false, false, false, false, false, false, false, false, false, false, false, false, false, false] { tmps := #[.map none, undef, .agg #[.int .u8 0, .int .u8 0, .int .u8 0], .agg #[.int .u8 1, .int .u8 0, .int .u8 0, .int .u8 0], .agg #[.int .u8 0, .int .u8 0, .int .u8 0], .agg #[.int .u8 2, .int .u8 0, .int .u8 0, .int .u8 0], .agg #[.int .u8 0, .int .u8 0, .int .u8 0], .agg #[.int .u8 3, .int .u8 0, .int .u8 0, .int .u8 0], .agg #[.int .u8 0, .int .u8 0, .int .u8 0], .agg #[.int .u8 4, .int .u8 0, .int .u8 0, .int .u8 0], .agg #[.int .u8 1, .int .u8 0, .int .u8 0], .agg #[.int .u8 5, .int .u8 1, .int .u8 0, .int .u8 0], .agg #[.int .u8 1, .int .u8 1, .int .u8 0], .agg #[.int .u8 7, .int .u8 1, .int .u8 1, .int .u8 0], .agg #[.int .u8 1, .int .u8 1, .int .u8 0], .agg #[.int .u8 8, .int .u8 1, .int .u8 1, .int .u8 0], .agg #[.int .u8 1, .int .u8 1, .int .u8 0], .agg #[.int .u8 9, .int .u8 1, .int .u8 1, .int .u8 0], .agg #[.int .u8 1, .int .u8 1, .int .u8 0], .agg #[.int .u8 10, .int .u8 1, .int .u8 1, .int .u8 0], .agg #[.int .u8 1, .int .u8 1, .int .u8 0], .agg #[.int .u8 11, .int .u8 1, .int .u8 1, .int .u8 0], .agg #[.int .u8 2, .int .u8 0, .int .u8 0], .agg #[.int .u8 6, .int .u8 2, .int .u8 0, .int .u8 0], .agg #[.int .u8 2, .int .u8 2, .int .u8 0], .agg #[.int .u8 16, .int .u8 2, .int .u8 2, .int .u8 0], .agg #[.int .u8 2, .int .u8 2, .int .u8 0], .agg #[.int .u8 17, .int .u8 2, .int .u8 2, .int .u8 0], undef, undef, undef, undef, undef, undef, undef, undef, undef, undef, undef, undef, undef, undef, undef, undef, undef], defers := [] } w
  refine wpAny_take (i := 40) (fuel := 39) (oi := { dst := some 28, op := .build 164 #[(0, .const (.int .u8 1)), (1, .const (.int .u8 1))], type := 164, pos := pss, after := #[], guard := none }) (v := .agg #[.int .u8 1, .int .u8 1, .int .u8 0]) (by kernel_rfl) hns (by kernel_rfl) (by kernel_rfl) (fun c a w h => hQ c a _ _ w h) (Or.inl ⟨by kernel_rfl, fun _ => by kernel_rfl⟩) ?r40
  show wpAny Try.prog .any tOps Q 39 #[false, true, true, false, true, true, false, true, true, false, true, true, false, true, true, false, true, true, false, true, true, false, true, true, false, true, true, false, true, true, false, true, true, false, true, true, false, true, true, false, true, false, false, false, false, false, false, false, false, false, false, false, false, false, false, false, false, false, false, false, false, false, false, false, false, false] { tmps := #[.map none, undef, .agg #[.int .u8 0, .int .u8 0, .int .u8 0], .agg #[.int .u8 1, .int .u8 0, .int .u8 0, .int .u8 0], .agg #[.int .u8 0, .int .u8 0, .int .u8 0], .agg #[.int .u8 2, .int .u8 0, .int .u8 0, .int .u8 0], .agg #[.int .u8 0, .int .u8 0, .int .u8 0], .agg #[.int .u8 3, .int .u8 0, .int .u8 0, .int .u8 0], .agg #[.int .u8 0, .int .u8 0, .int .u8 0], .agg #[.int .u8 4, .int .u8 0, .int .u8 0, .int .u8 0], .agg #[.int .u8 1, .int .u8 0, .int .u8 0], .agg #[.int .u8 5, .int .u8 1, .int .u8 0, .int .u8 0], .agg #[.int .u8 1, .int .u8 1, .int .u8 0], .agg #[.int .u8 7, .int .u8 1, .int .u8 1, .int .u8 0], .agg #[.int .u8 1, .int .u8 1, .int .u8 0], .agg #[.int .u8 8, .int .u8 1, .int .u8 1, .int .u8 0], .agg #[.int .u8 1, .int .u8 1, .int .u8 0], .agg #[.int .u8 9, .int .u8 1, .int .u8 1, .int .u8 0], .agg #[.int .u8 1, .int .u8 1, .int .u8 0], .agg #[.int .u8 10, .int .u8 1, .int .u8 1, .int .u8 0], .agg #[.int .u8 1, .int .u8 1, .int .u8 0], .agg #[.int .u8 11, .int .u8 1, .int .u8 1, .int .u8 0], .agg #[.int .u8 2, .int .u8 0, .int .u8 0], .agg #[.int .u8 6, .int .u8 2, .int .u8 0, .int .u8 0], .agg #[.int .u8 2, .int .u8 2, .int .u8 0], .agg #[.int .u8 16, .int .u8 2, .int .u8 2, .int .u8 0], .agg #[.int .u8 2, .int .u8 2, .int .u8 0], .agg #[.int .u8 17, .int .u8 2, .int .u8 2, .int .u8 0], .agg #[.int .u8 1, .int .u8 1, .int .u8 0], undef, undef, undef, undef, undef, undef, undef, undef, undef, undef, undef, undef, undef, undef, undef, undef], defers := [] } w
  refine wpAny_take (i := 41) (fuel := 38) (oi := { dst := some 29, op := .build 166 #[(0, .const (.int .u8 12)), (1, .tmp 28)], type := 166, pos := pss, after := #[{ on := 40, ground := Ground.data }], guard := none }) (v := .agg #[.int .u8 12, .int .u8 1, .int .u8 1, .int .u8 0]) (by kernel_rfl) hns (by kernel_rfl) (by kernel_rfl) (fun c a w h => hQ c a _ _ w h) (Or.inl ⟨by kernel_rfl, fun _ => by kernel_rfl⟩) ?r41
  show wpAny Try.prog .any tOps Q 38 #[false, true, true, false, true, true, false, true, true, false, true, true, false, true, true, false, true, true, false, true, true, false, true, true, false, true, true, false, true, true, false, true, true, false, true, true, false, true, true, false, true, true, false, false, false, false, false, false, false, false, false, false, false, false, false, false, false, false, false, false, false, false, false, false, false, false] { tmps := #[.map none, undef, .agg #[.int .u8 0, .int .u8 0, .int .u8 0], .agg #[.int .u8 1, .int .u8 0, .int .u8 0, .int .u8 0], .agg #[.int .u8 0, .int .u8 0, .int .u8 0], .agg #[.int .u8 2, .int .u8 0, .int .u8 0, .int .u8 0], .agg #[.int .u8 0, .int .u8 0, .int .u8 0], .agg #[.int .u8 3, .int .u8 0, .int .u8 0, .int .u8 0], .agg #[.int .u8 0, .int .u8 0, .int .u8 0], .agg #[.int .u8 4, .int .u8 0, .int .u8 0, .int .u8 0], .agg #[.int .u8 1, .int .u8 0, .int .u8 0], .agg #[.int .u8 5, .int .u8 1, .int .u8 0, .int .u8 0], .agg #[.int .u8 1, .int .u8 1, .int .u8 0], .agg #[.int .u8 7, .int .u8 1, .int .u8 1, .int .u8 0], .agg #[.int .u8 1, .int .u8 1, .int .u8 0], .agg #[.int .u8 8, .int .u8 1, .int .u8 1, .int .u8 0], .agg #[.int .u8 1, .int .u8 1, .int .u8 0], .agg #[.int .u8 9, .int .u8 1, .int .u8 1, .int .u8 0], .agg #[.int .u8 1, .int .u8 1, .int .u8 0], .agg #[.int .u8 10, .int .u8 1, .int .u8 1, .int .u8 0], .agg #[.int .u8 1, .int .u8 1, .int .u8 0], .agg #[.int .u8 11, .int .u8 1, .int .u8 1, .int .u8 0], .agg #[.int .u8 2, .int .u8 0, .int .u8 0], .agg #[.int .u8 6, .int .u8 2, .int .u8 0, .int .u8 0], .agg #[.int .u8 2, .int .u8 2, .int .u8 0], .agg #[.int .u8 16, .int .u8 2, .int .u8 2, .int .u8 0], .agg #[.int .u8 2, .int .u8 2, .int .u8 0], .agg #[.int .u8 17, .int .u8 2, .int .u8 2, .int .u8 0], .agg #[.int .u8 1, .int .u8 1, .int .u8 0], .agg #[.int .u8 12, .int .u8 1, .int .u8 1, .int .u8 0], undef, undef, undef, undef, undef, undef, undef, undef, undef, undef, undef, undef, undef, undef, undef], defers := [] } w
  refine wpAny_take (i := 43) (fuel := 37) (oi := { dst := some 30, op := .build 164 #[(0, .const (.int .u8 1)), (1, .const (.int .u8 1))], type := 164, pos := pss, after := #[], guard := none }) (v := .agg #[.int .u8 1, .int .u8 1, .int .u8 0]) (by kernel_rfl) hns (by kernel_rfl) (by kernel_rfl) (fun c a w h => hQ c a _ _ w h) (Or.inl ⟨by kernel_rfl, fun _ => by kernel_rfl⟩) ?r43
  show wpAny Try.prog .any tOps Q 37 #[false, true, true, false, true, true, false, true, true, false, true, true, false, true, true, false, true, true, false, true, true, false, true, true, false, true, true, false, true, true, false, true, true, false, true, true, false, true, true, false, true, true, false, true, false, false, false, false, false, false, false, false, false, false, false, false, false, false, false, false, false, false, false, false, false, false] { tmps := #[.map none, undef, .agg #[.int .u8 0, .int .u8 0, .int .u8 0], .agg #[.int .u8 1, .int .u8 0, .int .u8 0, .int .u8 0], .agg #[.int .u8 0, .int .u8 0, .int .u8 0], .agg #[.int .u8 2, .int .u8 0, .int .u8 0, .int .u8 0], .agg #[.int .u8 0, .int .u8 0, .int .u8 0], .agg #[.int .u8 3, .int .u8 0, .int .u8 0, .int .u8 0], .agg #[.int .u8 0, .int .u8 0, .int .u8 0], .agg #[.int .u8 4, .int .u8 0, .int .u8 0, .int .u8 0], .agg #[.int .u8 1, .int .u8 0, .int .u8 0], .agg #[.int .u8 5, .int .u8 1, .int .u8 0, .int .u8 0], .agg #[.int .u8 1, .int .u8 1, .int .u8 0], .agg #[.int .u8 7, .int .u8 1, .int .u8 1, .int .u8 0], .agg #[.int .u8 1, .int .u8 1, .int .u8 0], .agg #[.int .u8 8, .int .u8 1, .int .u8 1, .int .u8 0], .agg #[.int .u8 1, .int .u8 1, .int .u8 0], .agg #[.int .u8 9, .int .u8 1, .int .u8 1, .int .u8 0], .agg #[.int .u8 1, .int .u8 1, .int .u8 0], .agg #[.int .u8 10, .int .u8 1, .int .u8 1, .int .u8 0], .agg #[.int .u8 1, .int .u8 1, .int .u8 0], .agg #[.int .u8 11, .int .u8 1, .int .u8 1, .int .u8 0], .agg #[.int .u8 2, .int .u8 0, .int .u8 0], .agg #[.int .u8 6, .int .u8 2, .int .u8 0, .int .u8 0], .agg #[.int .u8 2, .int .u8 2, .int .u8 0], .agg #[.int .u8 16, .int .u8 2, .int .u8 2, .int .u8 0], .agg #[.int .u8 2, .int .u8 2, .int .u8 0], .agg #[.int .u8 17, .int .u8 2, .int .u8 2, .int .u8 0], .agg #[.int .u8 1, .int .u8 1, .int .u8 0], .agg #[.int .u8 12, .int .u8 1, .int .u8 1, .int .u8 0], .agg #[.int .u8 1, .int .u8 1, .int .u8 0], undef, undef, undef, undef, undef, undef, undef, undef, undef, undef, undef, undef, undef, undef], defers := [] } w
  refine wpAny_take (i := 44) (fuel := 36) (oi := { dst := some 31, op := .build 166 #[(0, .const (.int .u8 13)), (1, .tmp 30)], type := 166, pos := pss, after := #[{ on := 43, ground := Ground.data }], guard := none }) (v := .agg #[.int .u8 13, .int .u8 1, .int .u8 1, .int .u8 0]) (by kernel_rfl) hns (by kernel_rfl) (by kernel_rfl) (fun c a w h => hQ c a _ _ w h) (Or.inl ⟨by kernel_rfl, fun _ => by kernel_rfl⟩) ?r44
  show wpAny Try.prog .any tOps Q 36 #[false, true, true, false, true, true, false, true, true, false, true, true, false, true, true, false, true, true, false, true, true, false, true, true, false, true, true, false, true, true, false, true, true, false, true, true, false, true, true, false, true, true, false, true, true, false, false, false, false, false, false, false, false, false, false, false, false, false, false, false, false, false, false, false, false, false] { tmps := #[.map none, undef, .agg #[.int .u8 0, .int .u8 0, .int .u8 0], .agg #[.int .u8 1, .int .u8 0, .int .u8 0, .int .u8 0], .agg #[.int .u8 0, .int .u8 0, .int .u8 0], .agg #[.int .u8 2, .int .u8 0, .int .u8 0, .int .u8 0], .agg #[.int .u8 0, .int .u8 0, .int .u8 0], .agg #[.int .u8 3, .int .u8 0, .int .u8 0, .int .u8 0], .agg #[.int .u8 0, .int .u8 0, .int .u8 0], .agg #[.int .u8 4, .int .u8 0, .int .u8 0, .int .u8 0], .agg #[.int .u8 1, .int .u8 0, .int .u8 0], .agg #[.int .u8 5, .int .u8 1, .int .u8 0, .int .u8 0], .agg #[.int .u8 1, .int .u8 1, .int .u8 0], .agg #[.int .u8 7, .int .u8 1, .int .u8 1, .int .u8 0], .agg #[.int .u8 1, .int .u8 1, .int .u8 0], .agg #[.int .u8 8, .int .u8 1, .int .u8 1, .int .u8 0], .agg #[.int .u8 1, .int .u8 1, .int .u8 0], .agg #[.int .u8 9, .int .u8 1, .int .u8 1, .int .u8 0], .agg #[.int .u8 1, .int .u8 1, .int .u8 0], .agg #[.int .u8 10, .int .u8 1, .int .u8 1, .int .u8 0], .agg #[.int .u8 1, .int .u8 1, .int .u8 0], .agg #[.int .u8 11, .int .u8 1, .int .u8 1, .int .u8 0], .agg #[.int .u8 2, .int .u8 0, .int .u8 0], .agg #[.int .u8 6, .int .u8 2, .int .u8 0, .int .u8 0], .agg #[.int .u8 2, .int .u8 2, .int .u8 0], .agg #[.int .u8 16, .int .u8 2, .int .u8 2, .int .u8 0], .agg #[.int .u8 2, .int .u8 2, .int .u8 0], .agg #[.int .u8 17, .int .u8 2, .int .u8 2, .int .u8 0], .agg #[.int .u8 1, .int .u8 1, .int .u8 0], .agg #[.int .u8 12, .int .u8 1, .int .u8 1, .int .u8 0], .agg #[.int .u8 1, .int .u8 1, .int .u8 0], .agg #[.int .u8 13, .int .u8 1, .int .u8 1, .int .u8 0], undef, undef, undef, undef, undef, undef, undef, undef, undef, undef, undef, undef, undef], defers := [] } w
  refine wpAny_take (i := 46) (fuel := 35) (oi := { dst := some 32, op := .build 164 #[(0, .const (.int .u8 1)), (1, .const (.int .u8 1))], type := 164, pos := pss, after := #[], guard := none }) (v := .agg #[.int .u8 1, .int .u8 1, .int .u8 0]) (by kernel_rfl) hns (by kernel_rfl) (by kernel_rfl) (fun c a w h => hQ c a _ _ w h) (Or.inl ⟨by kernel_rfl, fun _ => by kernel_rfl⟩) ?r46
  show wpAny Try.prog .any tOps Q 35 #[false, true, true, false, true, true, false, true, true, false, true, true, false, true, true, false, true, true, false, true, true, false, true, true, false, true, true, false, true, true, false, true, true, false, true, true, false, true, true, false, true, true, false, true, true, false, true, false, false, false, false, false, false, false, false, false, false, false, false, false, false, false, false, false, false, false] { tmps := #[.map none, undef, .agg #[.int .u8 0, .int .u8 0, .int .u8 0], .agg #[.int .u8 1, .int .u8 0, .int .u8 0, .int .u8 0], .agg #[.int .u8 0, .int .u8 0, .int .u8 0], .agg #[.int .u8 2, .int .u8 0, .int .u8 0, .int .u8 0], .agg #[.int .u8 0, .int .u8 0, .int .u8 0], .agg #[.int .u8 3, .int .u8 0, .int .u8 0, .int .u8 0], .agg #[.int .u8 0, .int .u8 0, .int .u8 0], .agg #[.int .u8 4, .int .u8 0, .int .u8 0, .int .u8 0], .agg #[.int .u8 1, .int .u8 0, .int .u8 0], .agg #[.int .u8 5, .int .u8 1, .int .u8 0, .int .u8 0], .agg #[.int .u8 1, .int .u8 1, .int .u8 0], .agg #[.int .u8 7, .int .u8 1, .int .u8 1, .int .u8 0], .agg #[.int .u8 1, .int .u8 1, .int .u8 0], .agg #[.int .u8 8, .int .u8 1, .int .u8 1, .int .u8 0], .agg #[.int .u8 1, .int .u8 1, .int .u8 0], .agg #[.int .u8 9, .int .u8 1, .int .u8 1, .int .u8 0], .agg #[.int .u8 1, .int .u8 1, .int .u8 0], .agg #[.int .u8 10, .int .u8 1, .int .u8 1, .int .u8 0], .agg #[.int .u8 1, .int .u8 1, .int .u8 0], .agg #[.int .u8 11, .int .u8 1, .int .u8 1, .int .u8 0], .agg #[.int .u8 2, .int .u8 0, .int .u8 0], .agg #[.int .u8 6, .int .u8 2, .int .u8 0, .int .u8 0], .agg #[.int .u8 2, .int .u8 2, .int .u8 0], .agg #[.int .u8 16, .int .u8 2, .int .u8 2, .int .u8 0], .agg #[.int .u8 2, .int .u8 2, .int .u8 0], .agg #[.int .u8 17, .int .u8 2, .int .u8 2, .int .u8 0], .agg #[.int .u8 1, .int .u8 1, .int .u8 0], .agg #[.int .u8 12, .int .u8 1, .int .u8 1, .int .u8 0], .agg #[.int .u8 1, .int .u8 1, .int .u8 0], .agg #[.int .u8 13, .int .u8 1, .int .u8 1, .int .u8 0], .agg #[.int .u8 1, .int .u8 1, .int .u8 0], undef, undef, undef, undef, undef, undef, undef, undef, undef, undef, undef, undef], defers := [] } w
  refine wpAny_take (i := 47) (fuel := 34) (oi := { dst := some 33, op := .build 166 #[(0, .const (.int .u8 14)), (1, .tmp 32)], type := 166, pos := pss, after := #[{ on := 46, ground := Ground.data }], guard := none }) (v := .agg #[.int .u8 14, .int .u8 1, .int .u8 1, .int .u8 0]) (by kernel_rfl) hns (by kernel_rfl) (by kernel_rfl) (fun c a w h => hQ c a _ _ w h) (Or.inl ⟨by kernel_rfl, fun _ => by kernel_rfl⟩) ?r47
  show wpAny Try.prog .any tOps Q 34 #[false, true, true, false, true, true, false, true, true, false, true, true, false, true, true, false, true, true, false, true, true, false, true, true, false, true, true, false, true, true, false, true, true, false, true, true, false, true, true, false, true, true, false, true, true, false, true, true, false, false, false, false, false, false, false, false, false, false, false, false, false, false, false, false, false, false] { tmps := #[.map none, undef, .agg #[.int .u8 0, .int .u8 0, .int .u8 0], .agg #[.int .u8 1, .int .u8 0, .int .u8 0, .int .u8 0], .agg #[.int .u8 0, .int .u8 0, .int .u8 0], .agg #[.int .u8 2, .int .u8 0, .int .u8 0, .int .u8 0], .agg #[.int .u8 0, .int .u8 0, .int .u8 0], .agg #[.int .u8 3, .int .u8 0, .int .u8 0, .int .u8 0], .agg #[.int .u8 0, .int .u8 0, .int .u8 0], .agg #[.int .u8 4, .int .u8 0, .int .u8 0, .int .u8 0], .agg #[.int .u8 1, .int .u8 0, .int .u8 0], .agg #[.int .u8 5, .int .u8 1, .int .u8 0, .int .u8 0], .agg #[.int .u8 1, .int .u8 1, .int .u8 0], .agg #[.int .u8 7, .int .u8 1, .int .u8 1, .int .u8 0], .agg #[.int .u8 1, .int .u8 1, .int .u8 0], .agg #[.int .u8 8, .int .u8 1, .int .u8 1, .int .u8 0], .agg #[.int .u8 1, .int .u8 1, .int .u8 0], .agg #[.int .u8 9, .int .u8 1, .int .u8 1, .int .u8 0], .agg #[.int .u8 1, .int .u8 1, .int .u8 0], .agg #[.int .u8 10, .int .u8 1, .int .u8 1, .int .u8 0], .agg #[.int .u8 1, .int .u8 1, .int .u8 0], .agg #[.int .u8 11, .int .u8 1, .int .u8 1, .int .u8 0], .agg #[.int .u8 2, .int .u8 0, .int .u8 0], .agg #[.int .u8 6, .int .u8 2, .int .u8 0, .int .u8 0], .agg #[.int .u8 2, .int .u8 2, .int .u8 0], .agg #[.int .u8 16, .int .u8 2, .int .u8 2, .int .u8 0], .agg #[.int .u8 2, .int .u8 2, .int .u8 0], .agg #[.int .u8 17, .int .u8 2, .int .u8 2, .int .u8 0], .agg #[.int .u8 1, .int .u8 1, .int .u8 0], .agg #[.int .u8 12, .int .u8 1, .int .u8 1, .int .u8 0], .agg #[.int .u8 1, .int .u8 1, .int .u8 0], .agg #[.int .u8 13, .int .u8 1, .int .u8 1, .int .u8 0], .agg #[.int .u8 1, .int .u8 1, .int .u8 0], .agg #[.int .u8 14, .int .u8 1, .int .u8 1, .int .u8 0], undef, undef, undef, undef, undef, undef, undef, undef, undef, undef, undef], defers := [] } w
  refine wpAny_take (i := 49) (fuel := 33) (oi := { dst := some 34, op := .build 164 #[(0, .const (.int .u8 2)), (1, .const (.int .u8 2))], type := 164, pos := pss, after := #[], guard := none }) (v := .agg #[.int .u8 2, .int .u8 2, .int .u8 0]) (by kernel_rfl) hns (by kernel_rfl) (by kernel_rfl) (fun c a w h => hQ c a _ _ w h) (Or.inl ⟨by kernel_rfl, fun _ => by kernel_rfl⟩) ?r49
  show wpAny Try.prog .any tOps Q 33 #[false, true, true, false, true, true, false, true, true, false, true, true, false, true, true, false, true, true, false, true, true, false, true, true, false, true, true, false, true, true, false, true, true, false, true, true, false, true, true, false, true, true, false, true, true, false, true, true, false, true, false, false, false, false, false, false, false, false, false, false, false, false, false, false, false, false] { tmps := #[.map none, undef, .agg #[.int .u8 0, .int .u8 0, .int .u8 0], .agg #[.int .u8 1, .int .u8 0, .int .u8 0, .int .u8 0], .agg #[.int .u8 0, .int .u8 0, .int .u8 0], .agg #[.int .u8 2, .int .u8 0, .int .u8 0, .int .u8 0], .agg #[.int .u8 0, .int .u8 0, .int .u8 0], .agg #[.int .u8 3, .int .u8 0, .int .u8 0, .int .u8 0], .agg #[.int .u8 0, .int .u8 0, .int .u8 0], .agg #[.int .u8 4, .int .u8 0, .int .u8 0, .int .u8 0], .agg #[.int .u8 1, .int .u8 0, .int .u8 0], .agg #[.int .u8 5, .int .u8 1, .int .u8 0, .int .u8 0], .agg #[.int .u8 1, .int .u8 1, .int .u8 0], .agg #[.int .u8 7, .int .u8 1, .int .u8 1, .int .u8 0], .agg #[.int .u8 1, .int .u8 1, .int .u8 0], .agg #[.int .u8 8, .int .u8 1, .int .u8 1, .int .u8 0], .agg #[.int .u8 1, .int .u8 1, .int .u8 0], .agg #[.int .u8 9, .int .u8 1, .int .u8 1, .int .u8 0], .agg #[.int .u8 1, .int .u8 1, .int .u8 0], .agg #[.int .u8 10, .int .u8 1, .int .u8 1, .int .u8 0], .agg #[.int .u8 1, .int .u8 1, .int .u8 0], .agg #[.int .u8 11, .int .u8 1, .int .u8 1, .int .u8 0], .agg #[.int .u8 2, .int .u8 0, .int .u8 0], .agg #[.int .u8 6, .int .u8 2, .int .u8 0, .int .u8 0], .agg #[.int .u8 2, .int .u8 2, .int .u8 0], .agg #[.int .u8 16, .int .u8 2, .int .u8 2, .int .u8 0], .agg #[.int .u8 2, .int .u8 2, .int .u8 0], .agg #[.int .u8 17, .int .u8 2, .int .u8 2, .int .u8 0], .agg #[.int .u8 1, .int .u8 1, .int .u8 0], .agg #[.int .u8 12, .int .u8 1, .int .u8 1, .int .u8 0], .agg #[.int .u8 1, .int .u8 1, .int .u8 0], .agg #[.int .u8 13, .int .u8 1, .int .u8 1, .int .u8 0], .agg #[.int .u8 1, .int .u8 1, .int .u8 0], .agg #[.int .u8 14, .int .u8 1, .int .u8 1, .int .u8 0], .agg #[.int .u8 2, .int .u8 2, .int .u8 0], undef, undef, undef, undef, undef, undef, undef, undef, undef, undef], defers := [] } w
  refine wpAny_take (i := 50) (fuel := 32) (oi := { dst := some 35, op := .build 166 #[(0, .const (.int .u8 14)), (1, .tmp 34)], type := 166, pos := pss, after := #[{ on := 49, ground := Ground.data }], guard := none }) (v := .agg #[.int .u8 14, .int .u8 2, .int .u8 2, .int .u8 0]) (by kernel_rfl) hns (by kernel_rfl) (by kernel_rfl) (fun c a w h => hQ c a _ _ w h) (Or.inl ⟨by kernel_rfl, fun _ => by kernel_rfl⟩) ?r50
  show wpAny Try.prog .any tOps Q 32 #[false, true, true, false, true, true, false, true, true, false, true, true, false, true, true, false, true, true, false, true, true, false, true, true, false, true, true, false, true, true, false, true, true, false, true, true, false, true, true, false, true, true, false, true, true, false, true, true, false, true, true, false, false, false, false, false, false, false, false, false, false, false, false, false, false, false] { tmps := #[.map none, undef, .agg #[.int .u8 0, .int .u8 0, .int .u8 0], .agg #[.int .u8 1, .int .u8 0, .int .u8 0, .int .u8 0], .agg #[.int .u8 0, .int .u8 0, .int .u8 0], .agg #[.int .u8 2, .int .u8 0, .int .u8 0, .int .u8 0], .agg #[.int .u8 0, .int .u8 0, .int .u8 0], .agg #[.int .u8 3, .int .u8 0, .int .u8 0, .int .u8 0], .agg #[.int .u8 0, .int .u8 0, .int .u8 0], .agg #[.int .u8 4, .int .u8 0, .int .u8 0, .int .u8 0], .agg #[.int .u8 1, .int .u8 0, .int .u8 0], .agg #[.int .u8 5, .int .u8 1, .int .u8 0, .int .u8 0], .agg #[.int .u8 1, .int .u8 1, .int .u8 0], .agg #[.int .u8 7, .int .u8 1, .int .u8 1, .int .u8 0], .agg #[.int .u8 1, .int .u8 1, .int .u8 0], .agg #[.int .u8 8, .int .u8 1, .int .u8 1, .int .u8 0], .agg #[.int .u8 1, .int .u8 1, .int .u8 0], .agg #[.int .u8 9, .int .u8 1, .int .u8 1, .int .u8 0], .agg #[.int .u8 1, .int .u8 1, .int .u8 0], .agg #[.int .u8 10, .int .u8 1, .int .u8 1, .int .u8 0], .agg #[.int .u8 1, .int .u8 1, .int .u8 0], .agg #[.int .u8 11, .int .u8 1, .int .u8 1, .int .u8 0], .agg #[.int .u8 2, .int .u8 0, .int .u8 0], .agg #[.int .u8 6, .int .u8 2, .int .u8 0, .int .u8 0], .agg #[.int .u8 2, .int .u8 2, .int .u8 0], .agg #[.int .u8 16, .int .u8 2, .int .u8 2, .int .u8 0], .agg #[.int .u8 2, .int .u8 2, .int .u8 0], .agg #[.int .u8 17, .int .u8 2, .int .u8 2, .int .u8 0], .agg #[.int .u8 1, .int .u8 1, .int .u8 0], .agg #[.int .u8 12, .int .u8 1, .int .u8 1, .int .u8 0], .agg #[.int .u8 1, .int .u8 1, .int .u8 0], .agg #[.int .u8 13, .int .u8 1, .int .u8 1, .int .u8 0], .agg #[.int .u8 1, .int .u8 1, .int .u8 0], .agg #[.int .u8 14, .int .u8 1, .int .u8 1, .int .u8 0], .agg #[.int .u8 2, .int .u8 2, .int .u8 0], .agg #[.int .u8 14, .int .u8 2, .int .u8 2, .int .u8 0], undef, undef, undef, undef, undef, undef, undef, undef, undef], defers := [] } w
  refine wpAny_take (i := 52) (fuel := 31) (oi := { dst := some 36, op := .build 164 #[(0, .const (.int .u8 1)), (1, .const (.int .u8 1))], type := 164, pos := pss, after := #[], guard := none }) (v := .agg #[.int .u8 1, .int .u8 1, .int .u8 0]) (by kernel_rfl) hns (by kernel_rfl) (by kernel_rfl) (fun c a w h => hQ c a _ _ w h) (Or.inl ⟨by kernel_rfl, fun _ => by kernel_rfl⟩) ?r52
  show wpAny Try.prog .any tOps Q 31 #[false, true, true, false, true, true, false, true, true, false, true, true, false, true, true, false, true, true, false, true, true, false, true, true, false, true, true, false, true, true, false, true, true, false, true, true, false, true, true, false, true, true, false, true, true, false, true, true, false, true, true, false, true, false, false, false, false, false, false, false, false, false, false, false, false, false] { tmps := #[.map none, undef, .agg #[.int .u8 0, .int .u8 0, .int .u8 0], .agg #[.int .u8 1, .int .u8 0, .int .u8 0, .int .u8 0], .agg #[.int .u8 0, .int .u8 0, .int .u8 0], .agg #[.int .u8 2, .int .u8 0, .int .u8 0, .int .u8 0], .agg #[.int .u8 0, .int .u8 0, .int .u8 0], .agg #[.int .u8 3, .int .u8 0, .int .u8 0, .int .u8 0], .agg #[.int .u8 0, .int .u8 0, .int .u8 0], .agg #[.int .u8 4, .int .u8 0, .int .u8 0, .int .u8 0], .agg #[.int .u8 1, .int .u8 0, .int .u8 0], .agg #[.int .u8 5, .int .u8 1, .int .u8 0, .int .u8 0], .agg #[.int .u8 1, .int .u8 1, .int .u8 0], .agg #[.int .u8 7, .int .u8 1, .int .u8 1, .int .u8 0], .agg #[.int .u8 1, .int .u8 1, .int .u8 0], .agg #[.int .u8 8, .int .u8 1, .int .u8 1, .int .u8 0], .agg #[.int .u8 1, .int .u8 1, .int .u8 0], .agg #[.int .u8 9, .int .u8 1, .int .u8 1, .int .u8 0], .agg #[.int .u8 1, .int .u8 1, .int .u8 0], .agg #[.int .u8 10, .int .u8 1, .int .u8 1, .int .u8 0], .agg #[.int .u8 1, .int .u8 1, .int .u8 0], .agg #[.int .u8 11, .int .u8 1, .int .u8 1, .int .u8 0], .agg #[.int .u8 2, .int .u8 0, .int .u8 0], .agg #[.int .u8 6, .int .u8 2, .int .u8 0, .int .u8 0], .agg #[.int .u8 2, .int .u8 2, .int .u8 0], .agg #[.int .u8 16, .int .u8 2, .int .u8 2, .int .u8 0], .agg #[.int .u8 2, .int .u8 2, .int .u8 0], .agg #[.int .u8 17, .int .u8 2, .int .u8 2, .int .u8 0], .agg #[.int .u8 1, .int .u8 1, .int .u8 0], .agg #[.int .u8 12, .int .u8 1, .int .u8 1, .int .u8 0], .agg #[.int .u8 1, .int .u8 1, .int .u8 0], .agg #[.int .u8 13, .int .u8 1, .int .u8 1, .int .u8 0], .agg #[.int .u8 1, .int .u8 1, .int .u8 0], .agg #[.int .u8 14, .int .u8 1, .int .u8 1, .int .u8 0], .agg #[.int .u8 2, .int .u8 2, .int .u8 0], .agg #[.int .u8 14, .int .u8 2, .int .u8 2, .int .u8 0], .agg #[.int .u8 1, .int .u8 1, .int .u8 0], undef, undef, undef, undef, undef, undef, undef, undef], defers := [] } w
  refine wpAny_take (i := 53) (fuel := 30) (oi := { dst := some 37, op := .build 166 #[(0, .const (.int .u8 15)), (1, .tmp 36)], type := 166, pos := pss, after := #[{ on := 52, ground := Ground.data }], guard := none }) (v := .agg #[.int .u8 15, .int .u8 1, .int .u8 1, .int .u8 0]) (by kernel_rfl) hns (by kernel_rfl) (by kernel_rfl) (fun c a w h => hQ c a _ _ w h) (Or.inl ⟨by kernel_rfl, fun _ => by kernel_rfl⟩) ?r53
  show wpAny Try.prog .any tOps Q 30 #[false, true, true, false, true, true, false, true, true, false, true, true, false, true, true, false, true, true, false, true, true, false, true, true, false, true, true, false, true, true, false, true, true, false, true, true, false, true, true, false, true, true, false, true, true, false, true, true, false, true, true, false, true, true, false, false, false, false, false, false, false, false, false, false, false, false] { tmps := #[.map none, undef, .agg #[.int .u8 0, .int .u8 0, .int .u8 0], .agg #[.int .u8 1, .int .u8 0, .int .u8 0, .int .u8 0], .agg #[.int .u8 0, .int .u8 0, .int .u8 0], .agg #[.int .u8 2, .int .u8 0, .int .u8 0, .int .u8 0], .agg #[.int .u8 0, .int .u8 0, .int .u8 0], .agg #[.int .u8 3, .int .u8 0, .int .u8 0, .int .u8 0], .agg #[.int .u8 0, .int .u8 0, .int .u8 0], .agg #[.int .u8 4, .int .u8 0, .int .u8 0, .int .u8 0], .agg #[.int .u8 1, .int .u8 0, .int .u8 0], .agg #[.int .u8 5, .int .u8 1, .int .u8 0, .int .u8 0], .agg #[.int .u8 1, .int .u8 1, .int .u8 0], .agg #[.int .u8 7, .int .u8 1, .int .u8 1, .int .u8 0], .agg #[.int .u8 1, .int .u8 1, .int .u8 0], .agg #[.int .u8 8, .int .u8 1, .int .u8 1, .int .u8 0], .agg #[.int .u8 1, .int .u8 1, .int .u8 0], .agg #[.int .u8 9, .int .u8 1, .int .u8 1, .int .u8 0], .agg #[.int .u8 1, .int .u8 1, .int .u8 0], .agg #[.int .u8 10, .int .u8 1, .int .u8 1, .int .u8 0], .agg #[.int .u8 1, .int .u8 1, .int .u8 0], .agg #[.int .u8 11, .int .u8 1, .int .u8 1, .int .u8 0], .agg #[.int .u8 2, .int .u8 0, .int .u8 0], .agg #[.int .u8 6, .int .u8 2, .int .u8 0, .int .u8 0], .agg #[.int .u8 2, .int .u8 2, .int .u8 0], .agg #[.int .u8 16, .int .u8 2, .int .u8 2, .int .u8 0], .agg #[.int .u8 2, .int .u8 2, .int .u8 0], .agg #[.int .u8 17, .int .u8 2, .int .u8 2, .int .u8 0], .agg #[.int .u8 1, .int .u8 1, .int .u8 0], .agg #[.int .u8 12, .int .u8 1, .int .u8 1, .int .u8 0], .agg #[.int .u8 1, .int .u8 1, .int .u8 0], .agg #[.int .u8 13, .int .u8 1, .int .u8 1, .int .u8 0], .agg #[.int .u8 1, .int .u8 1, .int .u8 0], .agg #[.int .u8 14, .int .u8 1, .int .u8 1, .int .u8 0], .agg #[.int .u8 2, .int .u8 2, .int .u8 0], .agg #[.int .u8 14, .int .u8 2, .int .u8 2, .int .u8 0], .agg #[.int .u8 1, .int .u8 1, .int .u8 0], .agg #[.int .u8 15, .int .u8 1, .int .u8 1, .int .u8 0], undef, undef, undef, undef, undef, undef, undef], defers := [] } w
  refine wpAny_take (i := 55) (fuel := 29) (oi := { dst := some 38, op := .build 164 #[(0, .const (.int .u8 2)), (1, .const (.int .u8 2))], type := 164, pos := pss, after := #[], guard := none }) (v := .agg #[.int .u8 2, .int .u8 2, .int .u8 0]) (by kernel_rfl) hns (by kernel_rfl) (by kernel_rfl) (fun c a w h => hQ c a _ _ w h) (Or.inl ⟨by kernel_rfl, fun _ => by kernel_rfl⟩) ?r55
  show wpAny Try.prog .any tOps Q 29 #[false, true, true, false, true, true, false, true, true, false, true, true, false, true, true, false, true, true, false, true, true, false, true, true, false, true, true, false, true, true, false, true, true, false, true, true, false, true, true, false, true, true, false, true, true, false, true, true, false, true, true, false, true, true, false, true, false, false, false, false, false, false, false, false, false, false] { tmps := #[.map none, undef, .agg #[.int .u8 0, .int .u8 0, .int .u8 0], .agg #[.int .u8 1, .int .u8 0, .int .u8 0, .int .u8 0], .agg #[.int .u8 0, .int .u8 0, .int .u8 0], .agg #[.int .u8 2, .int .u8 0, .int .u8 0, .int .u8 0], .agg #[.int .u8 0, .int .u8 0, .int .u8 0], .agg #[.int .u8 3, .int .u8 0, .int .u8 0, .int .u8 0], .agg #[.int .u8 0, .int .u8 0, .int .u8 0], .agg #[.int .u8 4, .int .u8 0, .int .u8 0, .int .u8 0], .agg #[.int .u8 1, .int .u8 0, .int .u8 0], .agg #[.int .u8 5, .int .u8 1, .int .u8 0, .int .u8 0], .agg #[.int .u8 1, .int .u8 1, .int .u8 0], .agg #[.int .u8 7, .int .u8 1, .int .u8 1, .int .u8 0], .agg #[.int .u8 1, .int .u8 1, .int .u8 0], .agg #[.int .u8 8, .int .u8 1, .int .u8 1, .int .u8 0], .agg #[.int .u8 1, .int .u8 1, .int .u8 0], .agg #[.int .u8 9, .int .u8 1, .int .u8 1, .int .u8 0], .agg #[.int .u8 1, .int .u8 1, .int .u8 0], .agg #[.int .u8 10, .int .u8 1, .int .u8 1, .int .u8 0], .agg #[.int .u8 1, .int .u8 1, .int .u8 0], .agg #[.int .u8 11, .int .u8 1, .int .u8 1, .int .u8 0], .agg #[.int .u8 2, .int .u8 0, .int .u8 0], .agg #[.int .u8 6, .int .u8 2, .int .u8 0, .int .u8 0], .agg #[.int .u8 2, .int .u8 2, .int .u8 0], .agg #[.int .u8 16, .int .u8 2, .int .u8 2, .int .u8 0], .agg #[.int .u8 2, .int .u8 2, .int .u8 0], .agg #[.int .u8 17, .int .u8 2, .int .u8 2, .int .u8 0], .agg #[.int .u8 1, .int .u8 1, .int .u8 0], .agg #[.int .u8 12, .int .u8 1, .int .u8 1, .int .u8 0], .agg #[.int .u8 1, .int .u8 1, .int .u8 0], .agg #[.int .u8 13, .int .u8 1, .int .u8 1, .int .u8 0], .agg #[.int .u8 1, .int .u8 1, .int .u8 0], .agg #[.int .u8 14, .int .u8 1, .int .u8 1, .int .u8 0], .agg #[.int .u8 2, .int .u8 2, .int .u8 0], .agg #[.int .u8 14, .int .u8 2, .int .u8 2, .int .u8 0], .agg #[.int .u8 1, .int .u8 1, .int .u8 0], .agg #[.int .u8 15, .int .u8 1, .int .u8 1, .int .u8 0], .agg #[.int .u8 2, .int .u8 2, .int .u8 0], undef, undef, undef, undef, undef, undef], defers := [] } w
  refine wpAny_take (i := 56) (fuel := 28) (oi := { dst := some 39, op := .build 166 #[(0, .const (.int .u8 15)), (1, .tmp 38)], type := 166, pos := pss, after := #[{ on := 55, ground := Ground.data }], guard := none }) (v := .agg #[.int .u8 15, .int .u8 2, .int .u8 2, .int .u8 0]) (by kernel_rfl) hns (by kernel_rfl) (by kernel_rfl) (fun c a w h => hQ c a _ _ w h) (Or.inl ⟨by kernel_rfl, fun _ => by kernel_rfl⟩) ?r56
  show wpAny Try.prog .any tOps Q 28 #[false, true, true, false, true, true, false, true, true, false, true, true, false, true, true, false, true, true, false, true, true, false, true, true, false, true, true, false, true, true, false, true, true, false, true, true, false, true, true, false, true, true, false, true, true, false, true, true, false, true, true, false, true, true, false, true, true, false, false, false, false, false, false, false, false, false] { tmps := #[.map none, undef, .agg #[.int .u8 0, .int .u8 0, .int .u8 0], .agg #[.int .u8 1, .int .u8 0, .int .u8 0, .int .u8 0], .agg #[.int .u8 0, .int .u8 0, .int .u8 0], .agg #[.int .u8 2, .int .u8 0, .int .u8 0, .int .u8 0], .agg #[.int .u8 0, .int .u8 0, .int .u8 0], .agg #[.int .u8 3, .int .u8 0, .int .u8 0, .int .u8 0], .agg #[.int .u8 0, .int .u8 0, .int .u8 0], .agg #[.int .u8 4, .int .u8 0, .int .u8 0, .int .u8 0], .agg #[.int .u8 1, .int .u8 0, .int .u8 0], .agg #[.int .u8 5, .int .u8 1, .int .u8 0, .int .u8 0], .agg #[.int .u8 1, .int .u8 1, .int .u8 0], .agg #[.int .u8 7, .int .u8 1, .int .u8 1, .int .u8 0], .agg #[.int .u8 1, .int .u8 1, .int .u8 0], .agg #[.int .u8 8, .int .u8 1, .int .u8 1, .int .u8 0], .agg #[.int .u8 1, .int .u8 1, .int .u8 0], .agg #[.int .u8 9, .int .u8 1, .int .u8 1, .int .u8 0], .agg #[.int .u8 1, .int .u8 1, .int .u8 0], .agg #[.int .u8 10, .int .u8 1, .int .u8 1, .int .u8 0], .agg #[.int .u8 1, .int .u8 1, .int .u8 0], .agg #[.int .u8 11, .int .u8 1, .int .u8 1, .int .u8 0], .agg #[.int .u8 2, .int .u8 0, .int .u8 0], .agg #[.int .u8 6, .int .u8 2, .int .u8 0, .int .u8 0], .agg #[.int .u8 2, .int .u8 2, .int .u8 0], .agg #[.int .u8 16, .int .u8 2, .int .u8 2, .int .u8 0], .agg #[.int .u8 2, .int .u8 2, .int .u8 0], .agg #[.int .u8 17, .int .u8 2, .int .u8 2, .int .u8 0], .agg #[.int .u8 1, .int .u8 1, .int .u8 0], .agg #[.int .u8 12, .int .u8 1, .int .u8 1, .int .u8 0], .agg #[.int .u8 1, .int .u8 1, .int .u8 0], .agg #[.int .u8 13, .int .u8 1, .int .u8 1, .int .u8 0], .agg #[.int .u8 1, .int .u8 1, .int .u8 0], .agg #[.int .u8 14, .int .u8 1, .int .u8 1, .int .u8 0], .agg #[.int .u8 2, .int .u8 2, .int .u8 0], .agg #[.int .u8 14, .int .u8 2, .int .u8 2, .int .u8 0], .agg #[.int .u8 1, .int .u8 1, .int .u8 0], .agg #[.int .u8 15, .int .u8 1, .int .u8 1, .int .u8 0], .agg #[.int .u8 2, .int .u8 2, .int .u8 0], .agg #[.int .u8 15, .int .u8 2, .int .u8 2, .int .u8 0], undef, undef, undef, undef, undef], defers := [] } w
  refine wpAny_take (i := 58) (fuel := 27) (oi := { dst := some 40, op := .build 164 #[(0, .const (.int .u8 2)), (1, .const (.int .u8 1)), (2, .const (.int .u8 1))], type := 164, pos := pss, after := #[], guard := none }) (v := .agg #[.int .u8 2, .int .u8 1, .int .u8 1]) (by kernel_rfl) hns (by kernel_rfl) (by kernel_rfl) (fun c a w h => hQ c a _ _ w h) (Or.inl ⟨by kernel_rfl, fun _ => by kernel_rfl⟩) ?r58
  show wpAny Try.prog .any tOps Q 27 #[false, true, true, false, true, true, false, true, true, false, true, true, false, true, true, false, true, true, false, true, true, false, true, true, false, true, true, false, true, true, false, true, true, false, true, true, false, true, true, false, true, true, false, true, true, false, true, true, false, true, true, false, true, true, false, true, true, false, true, false, false, false, false, false, false, false] { tmps := #[.map none, undef, .agg #[.int .u8 0, .int .u8 0, .int .u8 0], .agg #[.int .u8 1, .int .u8 0, .int .u8 0, .int .u8 0], .agg #[.int .u8 0, .int .u8 0, .int .u8 0], .agg #[.int .u8 2, .int .u8 0, .int .u8 0, .int .u8 0], .agg #[.int .u8 0, .int .u8 0, .int .u8 0], .agg #[.int .u8 3, .int .u8 0, .int .u8 0, .int .u8 0], .agg #[.int .u8 0, .int .u8 0, .int .u8 0], .agg #[.int .u8 4, .int .u8 0, .int .u8 0, .int .u8 0], .agg #[.int .u8 1, .int .u8 0, .int .u8 0], .agg #[.int .u8 5, .int .u8 1, .int .u8 0, .int .u8 0], .agg #[.int .u8 1, .int .u8 1, .int .u8 0], .agg #[.int .u8 7, .int .u8 1, .int .u8 1, .int .u8 0], .agg #[.int .u8 1, .int .u8 1, .int .u8 0], .agg #[.int .u8 8, .int .u8 1, .int .u8 1, .int .u8 0], .agg #[.int .u8 1, .int .u8 1, .int .u8 0], .agg #[.int .u8 9, .int .u8 1, .int .u8 1, .int .u8 0], .agg #[.int .u8 1, .int .u8 1, .int .u8 0], .agg #[.int .u8 10, .int .u8 1, .int .u8 1, .int .u8 0], .agg #[.int .u8 1, .int .u8 1, .int .u8 0], .agg #[.int .u8 11, .int .u8 1, .int .u8 1, .int .u8 0], .agg #[.int .u8 2, .int .u8 0, .int .u8 0], .agg #[.int .u8 6, .int .u8 2, .int .u8 0, .int .u8 0], .agg #[.int .u8 2, .int .u8 2, .int .u8 0], .agg #[.int .u8 16, .int .u8 2, .int .u8 2, .int .u8 0], .agg #[.int .u8 2, .int .u8 2, .int .u8 0], .agg #[.int .u8 17, .int .u8 2, .int .u8 2, .int .u8 0], .agg #[.int .u8 1, .int .u8 1, .int .u8 0], .agg #[.int .u8 12, .int .u8 1, .int .u8 1, .int .u8 0], .agg #[.int .u8 1, .int .u8 1, .int .u8 0], .agg #[.int .u8 13, .int .u8 1, .int .u8 1, .int .u8 0], .agg #[.int .u8 1, .int .u8 1, .int .u8 0], .agg #[.int .u8 14, .int .u8 1, .int .u8 1, .int .u8 0], .agg #[.int .u8 2, .int .u8 2, .int .u8 0], .agg #[.int .u8 14, .int .u8 2, .int .u8 2, .int .u8 0], .agg #[.int .u8 1, .int .u8 1, .int .u8 0], .agg #[.int .u8 15, .int .u8 1, .int .u8 1, .int .u8 0], .agg #[.int .u8 2, .int .u8 2, .int .u8 0], .agg #[.int .u8 15, .int .u8 2, .int .u8 2, .int .u8 0], .agg #[.int .u8 2, .int .u8 1, .int .u8 1], undef, undef, undef, undef], defers := [] } w
  refine wpAny_take (i := 59) (fuel := 26) (oi := { dst := some 41, op := .build 166 #[(0, .const (.int .u8 18)), (1, .tmp 40)], type := 166, pos := pss, after := #[{ on := 58, ground := Ground.data }], guard := none }) (v := .agg #[.int .u8 18, .int .u8 2, .int .u8 1, .int .u8 1]) (by kernel_rfl) hns (by kernel_rfl) (by kernel_rfl) (fun c a w h => hQ c a _ _ w h) (Or.inl ⟨by kernel_rfl, fun _ => by kernel_rfl⟩) ?r59
  show wpAny Try.prog .any tOps Q 26 #[false, true, true, false, true, true, false, true, true, false, true, true, false, true, true, false, true, true, false, true, true, false, true, true, false, true, true, false, true, true, false, true, true, false, true, true, false, true, true, false, true, true, false, true, true, false, true, true, false, true, true, false, true, true, false, true, true, false, true, true, false, false, false, false, false, false] { tmps := #[.map none, undef, .agg #[.int .u8 0, .int .u8 0, .int .u8 0], .agg #[.int .u8 1, .int .u8 0, .int .u8 0, .int .u8 0], .agg #[.int .u8 0, .int .u8 0, .int .u8 0], .agg #[.int .u8 2, .int .u8 0, .int .u8 0, .int .u8 0], .agg #[.int .u8 0, .int .u8 0, .int .u8 0], .agg #[.int .u8 3, .int .u8 0, .int .u8 0, .int .u8 0], .agg #[.int .u8 0, .int .u8 0, .int .u8 0], .agg #[.int .u8 4, .int .u8 0, .int .u8 0, .int .u8 0], .agg #[.int .u8 1, .int .u8 0, .int .u8 0], .agg #[.int .u8 5, .int .u8 1, .int .u8 0, .int .u8 0], .agg #[.int .u8 1, .int .u8 1, .int .u8 0], .agg #[.int .u8 7, .int .u8 1, .int .u8 1, .int .u8 0], .agg #[.int .u8 1, .int .u8 1, .int .u8 0], .agg #[.int .u8 8, .int .u8 1, .int .u8 1, .int .u8 0], .agg #[.int .u8 1, .int .u8 1, .int .u8 0], .agg #[.int .u8 9, .int .u8 1, .int .u8 1, .int .u8 0], .agg #[.int .u8 1, .int .u8 1, .int .u8 0], .agg #[.int .u8 10, .int .u8 1, .int .u8 1, .int .u8 0], .agg #[.int .u8 1, .int .u8 1, .int .u8 0], .agg #[.int .u8 11, .int .u8 1, .int .u8 1, .int .u8 0], .agg #[.int .u8 2, .int .u8 0, .int .u8 0], .agg #[.int .u8 6, .int .u8 2, .int .u8 0, .int .u8 0], .agg #[.int .u8 2, .int .u8 2, .int .u8 0], .agg #[.int .u8 16, .int .u8 2, .int .u8 2, .int .u8 0], .agg #[.int .u8 2, .int .u8 2, .int .u8 0], .agg #[.int .u8 17, .int .u8 2, .int .u8 2, .int .u8 0], .agg #[.int .u8 1, .int .u8 1, .int .u8 0], .agg #[.int .u8 12, .int .u8 1, .int .u8 1, .int .u8 0], .agg #[.int .u8 1, .int .u8 1, .int .u8 0], .agg #[.int .u8 13, .int .u8 1, .int .u8 1, .int .u8 0], .agg #[.int .u8 1, .int .u8 1, .int .u8 0], .agg #[.int .u8 14, .int .u8 1, .int .u8 1, .int .u8 0], .agg #[.int .u8 2, .int .u8 2, .int .u8 0], .agg #[.int .u8 14, .int .u8 2, .int .u8 2, .int .u8 0], .agg #[.int .u8 1, .int .u8 1, .int .u8 0], .agg #[.int .u8 15, .int .u8 1, .int .u8 1, .int .u8 0], .agg #[.int .u8 2, .int .u8 2, .int .u8 0], .agg #[.int .u8 15, .int .u8 2, .int .u8 2, .int .u8 0], .agg #[.int .u8 2, .int .u8 1, .int .u8 1], .agg #[.int .u8 18, .int .u8 2, .int .u8 1, .int .u8 1], undef, undef, undef], defers := [] } w
  refine wpAny_take (i := 61) (fuel := 25) (oi := { dst := some 42, op := .build 164 #[(0, .const (.int .u8 2)), (1, .const (.int .u8 2)), (2, .const (.int .u8 2))], type := 164, pos := pss, after := #[], guard := none }) (v := .agg #[.int .u8 2, .int .u8 2, .int .u8 2]) (by kernel_rfl) hns (by kernel_rfl) (by kernel_rfl) (fun c a w h => hQ c a _ _ w h) (Or.inl ⟨by kernel_rfl, fun _ => by kernel_rfl⟩) ?r61
  show wpAny Try.prog .any tOps Q 25 #[false, true, true, false, true, true, false, true, true, false, true, true, false, true, true, false, true, true, false, true, true, false, true, true, false, true, true, false, true, true, false, true, true, false, true, true, false, true, true, false, true, true, false, true, true, false, true, true, false, true, true, false, true, true, false, true, true, false, true, true, false, true, false, false, false, false] { tmps := #[.map none, undef, .agg #[.int .u8 0, .int .u8 0, .int .u8 0], .agg #[.int .u8 1, .int .u8 0, .int .u8 0, .int .u8 0], .agg #[.int .u8 0, .int .u8 0, .int .u8 0], .agg #[.int .u8 2, .int .u8 0, .int .u8 0, .int .u8 0], .agg #[.int .u8 0, .int .u8 0, .int .u8 0], .agg #[.int .u8 3, .int .u8 0, .int .u8 0, .int .u8 0], .agg #[.int .u8 0, .int .u8 0, .int .u8 0], .agg #[.int .u8 4, .int .u8 0, .int .u8 0, .int .u8 0], .agg #[.int .u8 1, .int .u8 0, .int .u8 0], .agg #[.int .u8 5, .int .u8 1, .int .u8 0, .int .u8 0], .agg #[.int .u8 1, .int .u8 1, .int .u8 0], .agg #[.int .u8 7, .int .u8 1, .int .u8 1, .int .u8 0], .agg #[.int .u8 1, .int .u8 1, .int .u8 0], .agg #[.int .u8 8, .int .u8 1, .int .u8 1, .int .u8 0], .agg #[.int .u8 1, .int .u8 1, .int .u8 0], .agg #[.int .u8 9, .int .u8 1, .int .u8 1, .int .u8 0], .agg #[.int .u8 1, .int .u8 1, .int .u8 0], .agg #[.int .u8 10, .int .u8 1, .int .u8 1, .int .u8 0], .agg #[.int .u8 1, .int .u8 1, .int .u8 0], .agg #[.int .u8 11, .int .u8 1, .int .u8 1, .int .u8 0], .agg #[.int .u8 2, .int .u8 0, .int .u8 0], .agg #[.int .u8 6, .int .u8 2, .int .u8 0, .int .u8 0], .agg #[.int .u8 2, .int .u8 2, .int .u8 0], .agg #[.int .u8 16, .int .u8 2, .int .u8 2, .int .u8 0], .agg #[.int .u8 2, .int .u8 2, .int .u8 0], .agg #[.int .u8 17, .int .u8 2, .int .u8 2, .int .u8 0], .agg #[.int .u8 1, .int .u8 1, .int .u8 0], .agg #[.int .u8 12, .int .u8 1, .int .u8 1, .int .u8 0], .agg #[.int .u8 1, .int .u8 1, .int .u8 0], .agg #[.int .u8 13, .int .u8 1, .int .u8 1, .int .u8 0], .agg #[.int .u8 1, .int .u8 1, .int .u8 0], .agg #[.int .u8 14, .int .u8 1, .int .u8 1, .int .u8 0], .agg #[.int .u8 2, .int .u8 2, .int .u8 0], .agg #[.int .u8 14, .int .u8 2, .int .u8 2, .int .u8 0], .agg #[.int .u8 1, .int .u8 1, .int .u8 0], .agg #[.int .u8 15, .int .u8 1, .int .u8 1, .int .u8 0], .agg #[.int .u8 2, .int .u8 2, .int .u8 0], .agg #[.int .u8 15, .int .u8 2, .int .u8 2, .int .u8 0], .agg #[.int .u8 2, .int .u8 1, .int .u8 1], .agg #[.int .u8 18, .int .u8 2, .int .u8 1, .int .u8 1], .agg #[.int .u8 2, .int .u8 2, .int .u8 2], undef, undef], defers := [] } w
  refine wpAny_take (i := 62) (fuel := 24) (oi := { dst := some 43, op := .build 166 #[(0, .const (.int .u8 18)), (1, .tmp 42)], type := 166, pos := pss, after := #[{ on := 61, ground := Ground.data }], guard := none }) (v := .agg #[.int .u8 18, .int .u8 2, .int .u8 2, .int .u8 2]) (by kernel_rfl) hns (by kernel_rfl) (by kernel_rfl) (fun c a w h => hQ c a _ _ w h) (Or.inl ⟨by kernel_rfl, fun _ => by kernel_rfl⟩) ?r62
  show wpAny Try.prog .any tOps Q 24 #[false, true, true, false, true, true, false, true, true, false, true, true, false, true, true, false, true, true, false, true, true, false, true, true, false, true, true, false, true, true, false, true, true, false, true, true, false, true, true, false, true, true, false, true, true, false, true, true, false, true, true, false, true, true, false, true, true, false, true, true, false, true, true, false, false, false] { tmps := #[.map none, undef, .agg #[.int .u8 0, .int .u8 0, .int .u8 0], .agg #[.int .u8 1, .int .u8 0, .int .u8 0, .int .u8 0], .agg #[.int .u8 0, .int .u8 0, .int .u8 0], .agg #[.int .u8 2, .int .u8 0, .int .u8 0, .int .u8 0], .agg #[.int .u8 0, .int .u8 0, .int .u8 0], .agg #[.int .u8 3, .int .u8 0, .int .u8 0, .int .u8 0], .agg #[.int .u8 0, .int .u8 0, .int .u8 0], .agg #[.int .u8 4, .int .u8 0, .int .u8 0, .int .u8 0], .agg #[.int .u8 1, .int .u8 0, .int .u8 0], .agg #[.int .u8 5, .int .u8 1, .int .u8 0, .int .u8 0], .agg #[.int .u8 1, .int .u8 1, .int .u8 0], .agg #[.int .u8 7, .int .u8 1, .int .u8 1, .int .u8 0], .agg #[.int .u8 1, .int .u8 1, .int .u8 0], .agg #[.int .u8 8, .int .u8 1, .int .u8 1, .int .u8 0], .agg #[.int .u8 1, .int .u8 1, .int .u8 0], .agg #[.int .u8 9, .int .u8 1, .int .u8 1, .int .u8 0], .agg #[.int .u8 1, .int .u8 1, .int .u8 0], .agg #[.int .u8 10, .int .u8 1, .int .u8 1, .int .u8 0], .agg #[.int .u8 1, .int .u8 1, .int .u8 0], .agg #[.int .u8 11, .int .u8 1, .int .u8 1, .int .u8 0], .agg #[.int .u8 2, .int .u8 0, .int .u8 0], .agg #[.int .u8 6, .int .u8 2, .int .u8 0, .int .u8 0], .agg #[.int .u8 2, .int .u8 2, .int .u8 0], .agg #[.int .u8 16, .int .u8 2, .int .u8 2, .int .u8 0], .agg #[.int .u8 2, .int .u8 2, .int .u8 0], .agg #[.int .u8 17, .int .u8 2, .int .u8 2, .int .u8 0], .agg #[.int .u8 1, .int .u8 1, .int .u8 0], .agg #[.int .u8 12, .int .u8 1, .int .u8 1, .int .u8 0], .agg #[.int .u8 1, .int .u8 1, .int .u8 0], .agg #[.int .u8 13, .int .u8 1, .int .u8 1, .int .u8 0], .agg #[.int .u8 1, .int .u8 1, .int .u8 0], .agg #[.int .u8 14, .int .u8 1, .int .u8 1, .int .u8 0], .agg #[.int .u8 2, .int .u8 2, .int .u8 0], .agg #[.int .u8 14, .int .u8 2, .int .u8 2, .int .u8 0], .agg #[.int .u8 1, .int .u8 1, .int .u8 0], .agg #[.int .u8 15, .int .u8 1, .int .u8 1, .int .u8 0], .agg #[.int .u8 2, .int .u8 2, .int .u8 0], .agg #[.int .u8 15, .int .u8 2, .int .u8 2, .int .u8 0], .agg #[.int .u8 2, .int .u8 1, .int .u8 1], .agg #[.int .u8 18, .int .u8 2, .int .u8 1, .int .u8 1], .agg #[.int .u8 2, .int .u8 2, .int .u8 2], .agg #[.int .u8 18, .int .u8 2, .int .u8 2, .int .u8 2], undef], defers := [] } w
  exact h
end Go.Proofs.Ytamdbfkofdjmlaa.exp
end
section
namespace Go.Proofs.Ytamdbfkofdjmlaa.exp
set_option linter.unusedSimpArgs false
set_option linter.unusedVariables false
open Go.RowKit nam
open Go.ChangeMaps (setBlock heap_setBlock_same heap_setBlock_other)

set_option maxRecDepth 100000 in
theorem fill_all {Q : Exit → Act → World → Prop} (hQ : ∀ c (a : Act) d v w, Q (.panic c) (a.put d v) w → Q (.panic c) a w) {W : World} {N : Nat} (p0 : PM kR vB (fun _ => True) W N (fun _ => none))
    (h : ∀ w', PM kR vB (fun _ => True) w' N tab → Only (fun k => k = N) W w' → Q .normal { tmps := #[.map (some N), .map (some N), .agg #[.int .u8 0, .int .u8 0, .int .u8 0], .agg #[.int .u8 1, .int .u8 0, .int .u8 0, .int .u8 0], .agg #[.int .u8 0, .int .u8 0, .int .u8 0], .agg #[.int .u8 2, .int .u8 0, .int .u8 0, .int .u8 0], .agg #[.int .u8 0, .int .u8 0, .int .u8 0], .agg #[.int .u8 3, .int .u8 0, .int .u8 0, .int .u8 0], .agg #[.int .u8 0, .int .u8 0, .int .u8 0], .agg #[.int .u8 4, .int .u8 0, .int .u8 0, .int .u8 0], .agg #[.int .u8 1, .int .u8 0, .int .u8 0], .agg #[.int .u8 5, .int .u8 1, .int .u8 0, .int .u8 0], .agg #[.int .u8 1, .int .u8 1, .int .u8 0], .agg #[.int .u8 7, .int .u8 1, .int .u8 1, .int .u8 0], .agg #[.int .u8 1, .int .u8 1, .int .u8 0], .agg #[.int .u8 8, .int .u8 1, .int .u8 1, .int .u8 0], .agg #[.int .u8 1, .int .u8 1, .int .u8 0], .agg #[.int .u8 9, .int .u8 1, .int .u8 1, .int .u8 0], .agg #[.int .u8 1, .int .u8 1, .int .u8 0], .agg #[.int .u8 10, .int .u8 1, .int .u8 1, .int .u8 0], .agg #[.int .u8 1, .int .u8 1, .int .u8 0], .agg #[.int .u8 11, .int .u8 1, .int .u8 1, .int .u8 0], .agg #[.int .u8 2, .int .u8 0, .int .u8 0], .agg #[.int .u8 6, .int .u8 2, .int .u8 0, .int .u8 0], .agg #[.int .u8 2, .int .u8 2, .int .u8 0], .agg #[.int .u8 16, .int .u8 2, .int .u8 2, .int .u8 0], .agg #[.int .u8 2, .int .u8 2, .int .u8 0], .agg #[.int .u8 17, .int .u8 2, .int .u8 2, .int .u8 0], .agg #[.int .u8 1, .int .u8 1, .int .u8 0], .agg #[.int .u8 12, .int .u8 1, .int .u8 1, .int .u8 0], .agg #[.int .u8 1, .int .u8 1, .int .u8 0], .agg #[.int .u8 13, .int .u8 1, .int .u8 1, .int .u8 0], .agg #[.int .u8 1, .int .u8 1, .int .u8 0], .agg #[.int .u8 14, .int .u8 1, .int .u8 1, .int .u8 0], .agg #[.int .u8 2, .int .u8 2, .int .u8 0], .agg #[.int .u8 14, .int .u8 2, .int .u8 2, .int .u8 0], .agg #[.int .u8 1, .int .u8 1, .int .u8 0], .agg #[.int .u8 15, .int .u8 1, .int .u8 1, .int .u8 0], .agg #[.int .u8 2, .int .u8 2, .int .u8 0], .agg #[.int .u8 15, .int .u8 2, .int .u8 2, .int .u8 0], .agg #[.int .u8 2, .int .u8 1, .int .u8 1], .agg #[.int .u8 18, .int .u8 2, .int .u8 1, .int .u8 1], .agg #[.int .u8 2, .int .u8 2, .int .u8 2], .agg #[.int .u8 18, .int .u8 2, .int .u8 2, .int .u8 2], .map (some N)], defers := [] } w') : wpAny Try.prog .any tOps Q 23 #[true, true, true, false, true, true, false, true, true, false, true, true, false, true, true, false, true, true, false, true, true, false, true, true, false, true, true, false, true, true, false, true, true, false, true, true, false, true, true, false, true, true, false, true, true, false, true, true, false, true, true, false, true, true, false, true, true, false, true, true, false, true, true, false, false, false] { tmps := #[.map none, .map (some N), .agg #[.int .u8 0, .int .u8 0, .int .u8 0], .agg #[.int .u8 1, .int .u8 0, .int .u8 0, .int .u8 0], .agg #[.int .u8 0, .int .u8 0, .int .u8 0], .agg #[.int .u8 2, .int .u8 0, .int .u8 0, .int .u8 0], .agg #[.int .u8 0, .int .u8 0, .int .u8 0], .agg #[.int .u8 3, .int .u8 0, .int .u8 0, .int .u8 0], .agg #[.int .u8 0, .int .u8 0, .int .u8 0], .agg #[.int .u8 4, .int .u8 0, .int .u8 0, .int .u8 0], .agg #[.int .u8 1, .int .u8 0, .int .u8 0], .agg #[.int .u8 5, .int .u8 1, .int .u8 0, .int .u8 0], .agg #[.int .u8 1, .int .u8 1, .int .u8 0], .agg #[.int .u8 7, .int .u8 1, .int .u8 1, .int .u8 0], .agg #[.int .u8 1, .int .u8 1, .int .u8 0], .agg #[.int .u8 8, .int .u8 1, .int .u8 1, .int .u8 0], .agg #[.int .u8 1, .int .u8 1, .int .u8 0], .agg #[.int .u8 9, .int .u8 1, .int .u8 1, .int .u8 0], .agg #[.int .u8 1, .int .u8 1, .int .u8 0], .agg #[.int .u8 10, .int .u8 1, .int .u8 1, .int .u8 0], .agg #[.int .u8 1, .int .u8 1, .int .u8 0], .agg #[.int .u8 11, .int .u8 1, .int .u8 1, .int .u8 0], .agg #[.int .u8 2, .int .u8 0, .int .u8 0], .agg #[.int .u8 6, .int .u8 2, .int .u8 0, .int .u8 0], .agg #[.int .u8 2, .int .u8 2, .int .u8 0], .agg #[.int .u8 16, .int .u8 2, .int .u8 2, .int .u8 0], .agg #[.int .u8 2, .int .u8 2, .int .u8 0], .agg #[.int .u8 17, .int .u8 2, .int .u8 2, .int .u8 0], .agg #[.int .u8 1, .int .u8 1, .int .u8 0], .agg #[.int .u8 12, .int .u8 1, .int .u8 1, .int .u8 0], .agg #[.int .u8 1, .int .u8 1, .int .u8 0], .agg #[.int .u8 13, .int .u8 1, .int .u8 1, .int .u8 0], .agg #[.int .u8 1, .int .u8 1, .int .u8 0], .agg #[.int .u8 14, .int .u8 1, .int .u8 1, .int .u8 0], .agg #[.int .u8 2, .int .u8 2, .int .u8 0], .agg #[.int .u8 14, .int .u8 2, .int .u8 2, .int .u8 0], .agg #[.int .u8 1, .int .u8 1, .int .u8 0], .agg #[.int .u8 15, .int .u8 1, .int .u8 1, .int .u8 0], .agg #[.int .u8 2, .int .u8 2, .int .u8 0], .agg #[.int .u8 15, .int .u8 2, .int .u8 2, .int .u8 0], .agg #[.int .u8 2, .int .u8 1, .int .u8 1], .agg #[.int .u8 18, .int .u8 2, .int .u8 1, .int .u8 1], .agg #[.int .u8 2, .int .u8 2, .int .u8 2], .agg #[.int .u8 18, .int .u8 2, .int .u8 2, .int .u8 2], undef], defers := [] } W := by
  refine wpAny_fills (L := ents) (T := tab) (fe := 2) (fin := #[true, true, true, true, true, true, true, true, true, true, true, true, true, true, true, true, true, true, true, true, true, true, true, true, true, true, true, true, true, true, true, true, true, true, true, true, true, true, true, true, true, true, true, true, true, true, true, true, true, true, true, true, true, true, true, true, true, true, true, true, true, true, true, true, false, false]) (b := N) ?hop (by kernel_rfl) (by kernel_rfl) (by kernel_rfl) (by kernel_rfl) (by decide) (by decide) ents_tab tab_in ?hend p0
  case hop =>
    intro e he
    simp only [ents, List.mem_cons, List.not_mem_nil, or_false] at he
    rcases he with rfl | rfl | rfl | rfl | rfl | rfl | rfl | rfl | rfl | rfl | rfl | rfl | rfl | rfl | rfl | rfl | rfl | rfl | rfl | rfl | rfl
    · exact ⟨{ dst := none, op := .insert 159 (.tmp 1) (.tmp 3) (.const (.int .u8 1)), type := 0, pos := pss, after := #[{ on := 0, ground := Ground.data }, { on := 2, ground := Ground.data }], guard := none }, by kernel_rfl, rfl, by kernel_rfl, rfl, by kernel_rfl, by kernel_rfl⟩
    · exact ⟨{ dst := none, op := .insert 159 (.tmp 1) (.tmp 5) (.const (.int .u8 1)), type := 0, pos := pss, after := #[{ on := 0, ground := Ground.data }, { on := 5, ground := Ground.data }], guard := none }, by kernel_rfl, rfl, by kernel_rfl, rfl, by kernel_rfl, by kernel_rfl⟩
    · exact ⟨{ dst := none, op := .insert 159 (.tmp 1) (.tmp 7) (.const (.int .u8 1)), type := 0, pos := pss, after := #[{ on := 0, ground := Ground.data }, { on := 8, ground := Ground.data }], guard := none }, by kernel_rfl, rfl, by kernel_rfl, rfl, by kernel_rfl, by kernel_rfl⟩
    · exact ⟨{ dst := none, op := .insert 159 (.tmp 1) (.tmp 9) (.const (.int .u8 1)), type := 0, pos := pss, after := #[{ on := 0, ground := Ground.data }, { on := 11, ground := Ground.data }], guard := none }, by kernel_rfl, rfl, by kernel_rfl, rfl, by kernel_rfl, by kernel_rfl⟩
    · exact ⟨{ dst := none, op := .insert 159 (.tmp 1) (.tmp 11) (.const (.int .u8 1)), type := 0, pos := pss, after := #[{ on := 0, ground := Ground.data }, { on := 14, ground := Ground.data }], guard := none }, by kernel_rfl, rfl, by kernel_rfl, rfl, by kernel_rfl, by kernel_rfl⟩
    · exact ⟨{ dst := none, op := .insert 159 (.tmp 1) (.tmp 13) (.const (.int .u8 1)), type := 0, pos := pss, after := #[{ on := 0, ground := Ground.data }, { on := 17, ground := Ground.data }], guard := none }, by kernel_rfl, rfl, by kernel_rfl, rfl, by kernel_rfl, by kernel_rfl⟩
    · exact ⟨{ dst := none, op := .insert 159 (.tmp 1) (.tmp 15) (.const (.int .u8 1)), type := 0, pos := pss, after := #[{ on := 0, ground := Ground.data }, { on := 20, ground := Ground.data }], guard := none }, by kernel_rfl, rfl, by kernel_rfl, rfl, by kernel_rfl, by kernel_rfl⟩
    · exact ⟨{ dst := none, op := .insert 159 (.tmp 1) (.tmp 17) (.const (.int .u8 1)), type := 0, pos := pss, after := #[{ on := 0, ground := Ground.data }, { on := 23, ground := Ground.data }], guard := none }, by kernel_rfl, rfl, by kernel_rfl, rfl, by kernel_rfl, by kernel_rfl⟩
    · exact ⟨{ dst := none, op := .insert 159 (.tmp 1) (.tmp 19) (.const (.int .u8 1)), type := 0, pos := pss, after := #[{ on := 0, ground := Ground.data }, { on := 26, ground := Ground.data }], guard := none }, by kernel_rfl, rfl, by kernel_rfl, rfl, by kernel_rfl, by kernel_rfl⟩
    · exact ⟨{ dst := none, op := .insert 159 (.tmp 1) (.tmp 21) (.const (.int .u8 1)), type := 0, pos := pss, after := #[{ on := 0, ground := Ground.data }, { on := 29, ground := Ground.data }], guard := none }, by kernel_rfl, rfl, by kernel_rfl, rfl, by kernel_rfl, by kernel_rfl⟩
    · exact ⟨{ dst := none, op := .insert 159 (.tmp 1) (.tmp 23) (.const (.int .u8 2)), type := 0, pos := pss, after := #[{ on := 0, ground := Ground.data }, { on := 32, ground := Ground.data }], guard := none }, by kernel_rfl, rfl, by kernel_rfl, rfl, by kernel_rfl, by kernel_rfl⟩
    · exact ⟨{ dst := none, op := .insert 159 (.tmp 1) (.tmp 25) (.const (.int .u8 2)), type := 0, pos := pss, after := #[{ on := 0, ground := Ground.data }, { on := 35, ground := Ground.data }], guard := none }, by kernel_rfl, rfl, by kernel_rfl, rfl, by kernel_rfl, by kernel_rfl⟩
    · exact ⟨{ dst := none, op := .insert 159 (.tmp 1) (.tmp 27) (.const (.int .u8 2)), type := 0, pos := pss, after := #[{ on := 0, ground := Ground.data }, { on := 38, ground := Ground.data }], guard := none }, by kernel_rfl, rfl, by kernel_rfl, rfl, by kernel_rfl, by kernel_rfl⟩
    · exact ⟨{ dst := none, op := .insert 159 (.tmp 1) (.tmp 29) (.const (.int .u8 2)), type := 0, pos := pss, after := #[{ on := 0, ground := Ground.data }, { on := 41, ground := Ground.data }], guard := none }, by kernel_rfl, rfl, by kernel_rfl, rfl, by kernel_rfl, by kernel_rfl⟩
    · exact ⟨{ dst := none, op := .insert 159 (.tmp 1) (.tmp 31) (.const (.int .u8 2)), type := 0, pos := pss, after := #[{ on := 0, ground := Ground.data }, { on := 44, ground := Ground.data }], guard := none }, by kernel_rfl, rfl, by kernel_rfl, rfl, by kernel_rfl, by kernel_rfl⟩
    · exact ⟨{ dst := none, op := .insert 159 (.tmp 1) (.tmp 33) (.const (.int .u8 2)), type := 0, pos := pss, after := #[{ on := 0, ground := Ground.data }, { on := 47, ground := Ground.data }], guard := none }, by kernel_rfl, rfl, by kernel_rfl, rfl, by kernel_rfl, by kernel_rfl⟩
    · exact ⟨{ dst := none, op := .insert 159 (.tmp 1) (.tmp 35) (.const (.int .u8 2)), type := 0, pos := pss, after := #[{ on := 0, ground := Ground.data }, { on := 50, ground := Ground.data }], guard := none }, by kernel_rfl, rfl, by kernel_rfl, rfl, by kernel_rfl, by kernel_rfl⟩
    · exact ⟨{ dst := none, op := .insert 159 (.tmp 1) (.tmp 37) (.const (.int .u8 2)), type := 0, pos := pss, after := #[{ on := 0, ground := Ground.data }, { on := 53, ground := Ground.data }], guard := none }, by kernel_rfl, rfl, by kernel_rfl, rfl, by kernel_rfl, by kernel_rfl⟩
    · exact ⟨{ dst := none, op := .insert 159 (.tmp 1) (.tmp 39) (.const (.int .u8 2)), type := 0, pos := pss, after := #[{ on := 0, ground := Ground.data }, { on := 56, ground := Ground.data }], guard := none }, by kernel_rfl, rfl, by kernel_rfl, rfl, by kernel_rfl, by kernel_rfl⟩
    · exact ⟨{ dst := none, op := .insert 159 (.tmp 1) (.tmp 41) (.const (.int .u8 1)), type := 0, pos := pss, after := #[{ on := 0, ground := Ground.data }, { on := 59, ground := Ground.data }], guard := none }, by kernel_rfl, rfl, by kernel_rfl, rfl, by kernel_rfl, by kernel_rfl⟩
    · exact ⟨{ dst := none, op := .insert 159 (.tmp 1) (.tmp 43) (.const (.int .u8 2)), type := 0, pos := pss, after := #[{ on := 0, ground := Ground.data }, { on := 62, ground := Ground.data }], guard := none }, by kernel_rfl, rfl, by kernel_rfl, rfl, by kernel_rfl, by kernel_rfl⟩
  case hend =>
    intro w' hp ho
    have hns : Region.noSelect tOps = true := by kernel_rfl
    refine wpAny_take (i := 64) (fuel := 1) (oi := { dst := some 44, op := .move (.tmp 1), type := 159, pos := pss, after := #[{ on := 0, ground := Ground.data }, { on := 1, ground := Ground.data }, { on := 2, ground := Ground.data }, { on := 3, ground := Ground.data }, { on := 4, ground := Ground.data }, { on := 5, ground := Ground.data }, { on := 6, ground := Ground.data }, { on := 7, ground := Ground.data }, { on := 8, ground := Ground.data }, { on := 9, ground := Ground.data }, { on := 10, ground := Ground.data }, { on := 11, ground := Ground.data }, { on := 12, ground := Ground.data }, { on := 13, ground := Ground.data }, { on := 14, ground := Ground.data }, { on := 15, ground := Ground.data }, { on := 16, ground := Ground.data }, { on := 17, ground := Ground.data }, { on := 18, ground := Ground.data }, { on := 19, ground := Ground.data }, { on := 20, ground := Ground.data }, { on := 21, ground := Ground.data }, { on := 22, ground := Ground.data }, { on := 23, ground := Ground.data }, { on := 24, ground := Ground.data }, { on := 25, ground := Ground.data }, { on := 26, ground := Ground.data }, { on := 27, ground := Ground.data }, { on := 28, ground := Ground.data }, { on := 29, ground := Ground.data }, { on := 30, ground := Ground.data }, { on := 31, ground := Ground.data }, { on := 32, ground := Ground.data }, { on := 33, ground := Ground.data }, { on := 34, ground := Ground.data }, { on := 35, ground := Ground.data }, { on := 36, ground := Ground.data }, { on := 37, ground := Ground.data }, { on := 38, ground := Ground.data }, { on := 39, ground := Ground.data }, { on := 40, ground := Ground.data }, { on := 41, ground := Ground.data }, { on := 42, ground := Ground.data }, { on := 43, ground := Ground.data }, { on := 44, ground := Ground.data }, { on := 45, ground := Ground.data }, { on := 46, ground := Ground.data }, { on := 47, ground := Ground.data }, { on := 48, ground := Ground.data }, { on := 49, ground := Ground.data }, { on := 50, ground := Ground.data }, { on := 51, ground := Ground.data }, { on := 52, ground := Ground.data }, { on := 53, ground := Ground.data }, { on := 54, ground := Ground.data }, { on := 55, ground := Ground.data }, { on := 56, ground := Ground.data }, { on := 57, ground := Ground.data }, { on := 58, ground := Ground.data }, { on := 59, ground := Ground.data }, { on := 60, ground := Ground.data }, { on := 61, ground := Ground.data }, { on := 62, ground := Ground.data }, { on := 63, ground := Ground.data }], guard := none }) (v := .map (some N)) (by kernel_rfl) hns (by kernel_rfl) (by kernel_rfl) (fun c a w h => hQ c a _ _ w h) (Or.inl ⟨by kernel_rfl, fun _ => by kernel_rfl⟩) ?r64
    show wpAny Try.prog .any tOps Q 1 #[true, true, true, true, true, true, true, true, true, true, true, true, true, true, true, true, true, true, true, true, true, true, true, true, true, true, true, true, true, true, true, true, true, true, true, true, true, true, true, true, true, true, true, true, true, true, true, true, true, true, true, true, true, true, true, true, true, true, true, true, true, true, true, true, true, false] { tmps := #[.map none, .map (some N), .agg #[.int .u8 0, .int .u8 0, .int .u8 0], .agg #[.int .u8 1, .int .u8 0, .int .u8 0, .int .u8 0], .agg #[.int .u8 0, .int .u8 0, .int .u8 0], .agg #[.int .u8 2, .int .u8 0, .int .u8 0, .int .u8 0], .agg #[.int .u8 0, .int .u8 0, .int .u8 0], .agg #[.int .u8 3, .int .u8 0, .int .u8 0, .int .u8 0], .agg #[.int .u8 0, .int .u8 0, .int .u8 0], .agg #[.int .u8 4, .int .u8 0, .int .u8 0, .int .u8 0], .agg #[.int .u8 1, .int .u8 0, .int .u8 0], .agg #[.int .u8 5, .int .u8 1, .int .u8 0, .int .u8 0], .agg #[.int .u8 1, .int .u8 1, .int .u8 0], .agg #[.int .u8 7, .int .u8 1, .int .u8 1, .int .u8 0], .agg #[.int .u8 1, .int .u8 1, .int .u8 0], .agg #[.int .u8 8, .int .u8 1, .int .u8 1, .int .u8 0], .agg #[.int .u8 1, .int .u8 1, .int .u8 0], .agg #[.int .u8 9, .int .u8 1, .int .u8 1, .int .u8 0], .agg #[.int .u8 1, .int .u8 1, .int .u8 0], .agg #[.int .u8 10, .int .u8 1, .int .u8 1, .int .u8 0], .agg #[.int .u8 1, .int .u8 1, .int .u8 0], .agg #[.int .u8 11, .int .u8 1, .int .u8 1, .int .u8 0], .agg #[.int .u8 2, .int .u8 0, .int .u8 0], .agg #[.int .u8 6, .int .u8 2, .int .u8 0, .int .u8 0], .agg #[.int .u8 2, .int .u8 2, .int .u8 0], .agg #[.int .u8 16, .int .u8 2, .int .u8 2, .int .u8 0], .agg #[.int .u8 2, .int .u8 2, .int .u8 0], .agg #[.int .u8 17, .int .u8 2, .int .u8 2, .int .u8 0], .agg #[.int .u8 1, .int .u8 1, .int .u8 0], .agg #[.int .u8 12, .int .u8 1, .int .u8 1, .int .u8 0], .agg #[.int .u8 1, .int .u8 1, .int .u8 0], .agg #[.int .u8 13, .int .u8 1, .int .u8 1, .int .u8 0], .agg #[.int .u8 1, .int .u8 1, .int .u8 0], .agg #[.int .u8 14, .int .u8 1, .int .u8 1, .int .u8 0], .agg #[.int .u8 2, .int .u8 2, .int .u8 0], .agg #[.int .u8 14, .int .u8 2, .int .u8 2, .int .u8 0], .agg #[.int .u8 1, .int .u8 1, .int .u8 0], .agg #[.int .u8 15, .int .u8 1, .int .u8 1, .int .u8 0], .agg #[.int .u8 2, .int .u8 2, .int .u8 0], .agg #[.int .u8 15, .int .u8 2, .int .u8 2, .int .u8 0], .agg #[.int .u8 2, .int .u8 1, .int .u8 1], .agg #[.int .u8 18, .int .u8 2, .int .u8 1, .int .u8 1], .agg #[.int .u8 2, .int .u8 2, .int .u8 2], .agg #[.int .u8 18, .int .u8 2, .int .u8 2, .int .u8 2], .map (some N)], defers := [] } w'
    refine wpAny_take (i := 65) (fuel := 0) (oi := { dst := some 0, op := .assign (.tmp 44), type := 159, pos := pss, after := #[{ on := 64, ground := Ground.data }, { on := 0, ground := Ground.phase }, { on := 1, ground := Ground.phase }, { on := 2, ground := Ground.phase }, { on := 3, ground := Ground.phase }, { on := 4, ground := Ground.phase }, { on := 5, ground := Ground.phase }, { on := 6, ground := Ground.phase }, { on := 7, ground := Ground.phase }, { on := 8, ground := Ground.phase }, { on := 9, ground := Ground.phase }, { on := 10, ground := Ground.phase }, { on := 11, ground := Ground.phase }, { on := 12, ground := Ground.phase }, { on := 13, ground := Ground.phase }, { on := 14, ground := Ground.phase }, { on := 15, ground := Ground.phase }, { on := 16, ground := Ground.phase }, { on := 17, ground := Ground.phase }, { on := 18, ground := Ground.phase }, { on := 19, ground := Ground.phase }, { on := 20, ground := Ground.phase }, { on := 21, ground := Ground.phase }, { on := 22, ground := Ground.phase }, { on := 23, ground := Ground.phase }, { on := 24, ground := Ground.phase }, { on := 25, ground := Ground.phase }, { on := 26, ground := Ground.phase }, { on := 27, ground := Ground.phase }, { on := 28, ground := Ground.phase }, { on := 29, ground := Ground.phase }, { on := 30, ground := Ground.phase }, { on := 31, ground := Ground.phase }, { on := 32, ground := Ground.phase }, { on := 33, ground := Ground.phase }, { on := 34, ground := Ground.phase }, { on := 35, ground := Ground.phase }, { on := 36, ground := Ground.phase }, { on := 37, ground := Ground.phase }, { on := 38, ground := Ground.phase }, { on := 39, ground := Ground.phase }, { on := 40, ground := Ground.phase }, { on := 41, ground := Ground.phase }, { on := 42, ground := Ground.phase }, { on := 43, ground := Ground.phase }, { on := 44, ground := Ground.phase }, { on := 45, ground := Ground.phase }, { on := 46, ground := Ground.phase }, { on := 47, ground := Ground.phase }, { on := 48, ground := Ground.phase }, { on := 49, ground := Ground.phase }, { on := 50, ground := Ground.phase }, { on := 51, ground := Ground.phase }, { on := 52, ground := Ground.phase }, { on := 53, ground := Ground.phase }, { on := 54, ground := Ground.phase }, { on := 55, ground := Ground.phase }, { on := 56, ground := Ground.phase }, { on := 57, ground := Ground.phase }, { on := 58, ground := Ground.phase }, { on := 59, ground := Ground.phase }, { on := 60, ground := Ground.phase }, { on := 61, ground := Ground.phase }, { on := 62, ground := Ground.phase }, { on := 63, ground := Ground.phase }, { on := 64, ground := Ground.phase }], guard := none }) (v := .map (some N)) (by kernel_rfl) hns (by kernel_rfl) (by kernel_rfl) (fun c a w h => hQ c a _ _ w h) (Or.inl ⟨by kernel_rfl, fun _ => by kernel_rfl⟩) ?r65
    show wpAny Try.prog .any tOps Q 0 #[true, true, true, true, true, true, true, true, true, true, true, true, true, true, true, true, true, true, true, true, true, true, true, true, true, true, true, true, true, true, true, true, true, true, true, true, true, true, true, true, true, true, true, true, true, true, true, true, true, true, true, true, true, true, true, true, true, true, true, true, true, true, true, true, true, true] { tmps := #[.map (some N), .map (some N), .agg #[.int .u8 0, .int .u8 0, .int .u8 0], .agg #[.int .u8 1, .int .u8 0, .int .u8 0, .int .u8 0], .agg #[.int .u8 0, .int .u8 0, .int .u8 0], .agg #[.int .u8 2, .int .u8 0, .int .u8 0, .int .u8 0], .agg #[.int .u8 0, .int .u8 0, .int .u8 0], .agg #[.int .u8 3, .int .u8 0, .int .u8 0, .int .u8 0], .agg #[.int .u8 0, .int .u8 0, .int .u8 0], .agg #[.int .u8 4, .int .u8 0, .int .u8 0, .int .u8 0], .agg #[.int .u8 1, .int .u8 0, .int .u8 0], .agg #[.int .u8 5, .int .u8 1, .int .u8 0, .int .u8 0], .agg #[.int .u8 1, .int .u8 1, .int .u8 0], .agg #[.int .u8 7, .int .u8 1, .int .u8 1, .int .u8 0], .agg #[.int .u8 1, .int .u8 1, .int .u8 0], .agg #[.int .u8 8, .int .u8 1, .int .u8 1, .int .u8 0], .agg #[.int .u8 1, .int .u8 1, .int .u8 0], .agg #[.int .u8 9, .int .u8 1, .int .u8 1, .int .u8 0], .agg #[.int .u8 1, .int .u8 1, .int .u8 0], .agg #[.int .u8 10, .int .u8 1, .int .u8 1, .int .u8 0], .agg #[.int .u8 1, .int .u8 1, .int .u8 0], .agg #[.int .u8 11, .int .u8 1, .int .u8 1, .int .u8 0], .agg #[.int .u8 2, .int .u8 0, .int .u8 0], .agg #[.int .u8 6, .int .u8 2, .int .u8 0, .int .u8 0], .agg #[.int .u8 2, .int .u8 2, .int .u8 0], .agg #[.int .u8 16, .int .u8 2, .int .u8 2, .int .u8 0], .agg #[.int .u8 2, .int .u8 2, .int .u8 0], .agg #[.int .u8 17, .int .u8 2, .int .u8 2, .int .u8 0], .agg #[.int .u8 1, .int .u8 1, .int .u8 0], .agg #[.int .u8 12, .int .u8 1, .int .u8 1, .int .u8 0], .agg #[.int .u8 1, .int .u8 1, .int .u8 0], .agg #[.int .u8 13, .int .u8 1, .int .u8 1, .int .u8 0], .agg #[.int .u8 1, .int .u8 1, .int .u8 0], .agg #[.int .u8 14, .int .u8 1, .int .u8 1, .int .u8 0], .agg #[.int .u8 2, .int .u8 2, .int .u8 0], .agg #[.int .u8 14, .int .u8 2, .int .u8 2, .int .u8 0], .agg #[.int .u8 1, .int .u8 1, .int .u8 0], .agg #[.int .u8 15, .int .u8 1, .int .u8 1, .int .u8 0], .agg #[.int .u8 2, .int .u8 2, .int .u8 0], .agg #[.int .u8 15, .int .u8 2, .int .u8 2, .int .u8 0], .agg #[.int .u8 2, .int .u8 1, .int .u8 1], .agg #[.int .u8 18, .int .u8 2, .int .u8 1, .int .u8 1], .agg #[.int .u8 2, .int .u8 2, .int .u8 2], .agg #[.int .u8 18, .int .u8 2, .int .u8 2, .int .u8 2], .map (some N)], defers := [] } w'
    exact wpAny_done (by kernel_rfl) (h w' hp ho) 0
set_option maxRecDepth 100000 in
theorem region_all {Q : Exit → Act → World → Prop} (hQ : ∀ c (a : Act) d v w, Q (.panic c) (a.put d v) w → Q (.panic c) a w) {w : World} {N : Nat} (hN : w.heap.size = N)
    (h : ∀ w', PM kR vB (fun _ => True) w' N tab → Only (fun k => k = N) (w.alloc (.map #[] 0)) w' → Q .normal { tmps := #[.map (some N), .map (some N), .agg #[.int .u8 0, .int .u8 0, .int .u8 0], .agg #[.int .u8 1, .int .u8 0, .int .u8 0, .int .u8 0], .agg #[.int .u8 0, .int .u8 0, .int .u8 0], .agg #[.int .u8 2, .int .u8 0, .int .u8 0, .int .u8 0], .agg #[.int .u8 0, .int .u8 0, .int .u8 0], .agg #[.int .u8 3, .int .u8 0, .int .u8 0, .int .u8 0], .agg #[.int .u8 0, .int .u8 0, .int .u8 0], .agg #[.int .u8 4, .int .u8 0, .int .u8 0, .int .u8 0], .agg #[.int .u8 1, .int .u8 0, .int .u8 0], .agg #[.int .u8 5, .int .u8 1, .int .u8 0, .int .u8 0], .agg #[.int .u8 1, .int .u8 1, .int .u8 0], .agg #[.int .u8 7, .int .u8 1, .int .u8 1, .int .u8 0], .agg #[.int .u8 1, .int .u8 1, .int .u8 0], .agg #[.int .u8 8, .int .u8 1, .int .u8 1, .int .u8 0], .agg #[.int .u8 1, .int .u8 1, .int .u8 0], .agg #[.int .u8 9, .int .u8 1, .int .u8 1, .int .u8 0], .agg #[.int .u8 1, .int .u8 1, .int .u8 0], .agg #[.int .u8 10, .int .u8 1, .int .u8 1, .int .u8 0], .agg #[.int .u8 1, .int .u8 1, .int .u8 0], .agg #[.int .u8 11, .int .u8 1, .int .u8 1, .int .u8 0], .agg #[.int .u8 2, .int .u8 0, .int .u8 0], .agg #[.int .u8 6, .int .u8 2, .int .u8 0, .int .u8 0], .agg #[.int .u8 2, .int .u8 2, .int .u8 0], .agg #[.int .u8 16, .int .u8 2, .int .u8 2, .int .u8 0], .agg #[.int .u8 2, .int .u8 2, .int .u8 0], .agg #[.int .u8 17, .int .u8 2, .int .u8 2, .int .u8 0], .agg #[.int .u8 1, .int .u8 1, .int .u8 0], .agg #[.int .u8 12, .int .u8 1, .int .u8 1, .int .u8 0], .agg #[.int .u8 1, .int .u8 1, .int .u8 0], .agg #[.int .u8 13, .int .u8 1, .int .u8 1, .int .u8 0], .agg #[.int .u8 1, .int .u8 1, .int .u8 0], .agg #[.int .u8 14, .int .u8 1, .int .u8 1, .int .u8 0], .agg #[.int .u8 2, .int .u8 2, .int .u8 0], .agg #[.int .u8 14, .int .u8 2, .int .u8 2, .int .u8 0], .agg #[.int .u8 1, .int .u8 1, .int .u8 0], .agg #[.int .u8 15, .int .u8 1, .int .u8 1, .int .u8 0], .agg #[.int .u8 2, .int .u8 2, .int .u8 0], .agg #[.int .u8 15, .int .u8 2, .int .u8 2, .int .u8 0], .agg #[.int .u8 2, .int .u8 1, .int .u8 1], .agg #[.int .u8 18, .int .u8 2, .int .u8 1, .int .u8 1], .agg #[.int .u8 2, .int .u8 2, .int .u8 2], .agg #[.int .u8 18, .int .u8 2, .int .u8 2, .int .u8 2], .map (some N)], defers := [] } w') : wpAny Try.prog .any tOps Q 66 (Array.replicate 66 false) { tmps := #[.map none, undef, undef, undef, undef, undef, undef, undef, undef, undef, undef, undef, undef, undef, undef, undef, undef, undef, undef, undef, undef, undef, undef, undef, undef, undef, undef, undef, undef, undef, undef, undef, undef, undef, undef, undef, undef, undef, undef, undef, undef, undef, undef, undef, undef], defers := [] } w := by
  refine takes_all hQ ?_
  refine wpAny_ready (rs := [0]) (by kernel_rfl) (by simp) ?_
  refine AllReady.cons (o := { dst := some 1, op := .makeMap 159 none, type := 159, pos := pss, after := #[], guard := none }) (by kernel_rfl) (fun K hK => ?_) AllReady.nil
  rw [if_pos (by kernel_rfl)]
  unfold Oper.wp
  have hmk : (Instr.makeMap 159 none).run Try.prog w = .ok (.map (some w.heap.size)) (w.alloc (.map #[] 0)) := by kernel_rfl
  simp only [execOp, Option.map_none, Sem.run_bind, hmk, Result.andThen_ok, Sem.run_pure]
  refine hK _ _ ?_
  subst hN
  have p0 : PM kR vB (fun _ => True) (w.alloc (.map #[] 0)) w.heap.size (fun _ => none) := PM.made w
  exact fill_all hQ p0 h
set_option maxRecDepth 100000 in
theorem table_any (w : World) : Calls Try.prog 110 #[] w fun e w' => ∃ tb, e = .returned (.map (some tb)) ∧ w.heap.size ≤ tb ∧ PM kR vB (fun _ => True) w' tb tab ∧ Below w.heap.size w w' := by
  have HP := Lib.hid (fun (Q : Exit → Act → World → Prop) hQ h => region_all (Q := Q) hQ (w := w.drew) (N := w.heap.size) rfl h)
  go_enter Try.func110, Try.ntmps110
  go_wp2_with fail
  refine wp_region_any (by kernel_rfl) ?_
  refine HP.out _ ?_ ?_
  · exact fun _ _ d _ _ h => by cases d <;> exact h
  · intro w' hp ho
    have hb : Below w.heap.size w w' := by
      have h1 : Below w.heap.size w (w.drew.alloc (.map #[] 0)) := ((Below.refl _ _).drew).alloc (Nat.le_refl _) _
      exact h1.trans (ho.below (by rw [World.size_alloc, World.size_drew]; omega) (fun k hk => by omega))
    have HX := Lib.hid (And.intro hp hb); clear hp hb ho HP
    go_wp2_with fail
    go_ret
    exact ⟨_, rfl, Nat.le_refl _, HX.out.1, HX.out.2⟩
end Go.Proofs.Ytamdbfkofdjmlaa.exp
end
section
namespace Go.Proofs.Ytamdbfkofdjmlaa.exp
set_option linter.unusedSimpArgs false
set_option linter.unusedVariables false
open Go.RowKit nam
open Go.ChangeMaps (setBlock heap_setBlock_same heap_setBlock_other)

def LkF (mb ba k : Nat) : Prop := k = mb ∨ k = ba
structure Lk (W : World) (mb tb bm ba bi bt : Nat) (w : World) (m : Addr → Option Nat) (A : Bool) : Prop where
  tr : Tr W w
  mp : PM kA vB (GA W) w mb m
  tp : PM kR vB (fun _ => True) w tb tab
  b1 : w.heap[bm]? = some (.cells #[.map (some mb)] 161 (0, 0))
  b2 : w.heap[ba]? = some (.cells #[.bool A] 4 (0, 0))
  b3 : w.heap[bi]? = some (.cells #[.func (.func 111) #[] #[ptr bm, ptr ba, ptr bi, ptr bt]] 162 (0, 0))
  b4 : w.heap[bt]? = some (.cells #[.map (some tb)] 159 (0, 0))
  inv : ∀ q v, m q = some v → ∃ y, q.spot = none ∧ At W Any q.block q.off y ∧ v = y.ty ∧ (y.acc = true → A = true)
  ne : mb ≠ tb
theorem Lk.drew {W : World} {mb tb bm ba bi bt : Nat} {w : World} {m : Addr → Option Nat} {A : Bool} (h : Lk W mb tb bm ba bi bt w m A) : Lk W mb tb bm ba bi bt w.drew m A :=
  ⟨h.tr, h.mp.kept rfl, h.tp.kept rfl, h.b1, h.b2, h.b3, h.b4, h.inv, h.ne⟩
theorem Lk.of_drew {W : World} {mb tb bm ba bi bt : Nat} {w : World} {m : Addr → Option Nat} {A : Bool} (h : Lk W mb tb bm ba bi bt w.drew m A) : Lk W mb tb bm ba bi bt w m A :=
  ⟨h.tr, h.mp.kept rfl, h.tp.kept rfl, h.b1, h.b2, h.b3, h.b4, h.inv, h.ne⟩
theorem Lk.moves {W : World} {mb tb bm ba bi bt : Nat} {w : World} {m : Addr → Option Nat} {A : Bool} (h : Lk W mb tb bm ba bi bt w m A) {k : Nat} (hk : LkF mb ba k) (c : Array Value) : W.heap[k]? ≠ some (.cells c 27 (0, 0)) := fun e => by
  have e2 := (h.tr k c e).trans e
  rcases hk with rfl | rfl
  · obtain ⟨es, clock, h1, _⟩ := h.mp.is
    rw [h1] at e2
    cases e2
  · have h1 := h.b2
    rw [h1] at e2
    simp at e2
/-- Whether there is an ExAcc is told. -/
theorem Lk.set {W : World} {mb tb bm ba bi bt : Nat} {w : World} {m : Addr → Option Nat} {A B : Bool} (h : Lk W mb tb bm ba bi bt w m A) (hAB : A = true → B = true) :
    Lk W mb tb bm ba bi bt (w.setCell ⟨ba, 0, none⟩ (.bool B)) m B ∧ Only (LkF mb ba) w (w.setCell ⟨ba, 0, none⟩ (.bool B)) := by
  have hon : Only (LkF mb ba) w (w.setCell ⟨ba, 0, none⟩ (.bool B)) := Only.setCell _ _ _ _ (.inr rfl)
  have hba : w.heap[ba]? = some (.cells #[.bool A] 4 (0, 0)) := h.b2
  have st : ∀ {k : Nat} {o : Obj}, w.heap[k]? = some o → o ≠ .cells #[.bool A] 4 (0, 0) → (w.setCell ⟨ba, 0, none⟩ (.bool B)).heap[k]? = w.heap[k]? := fun {k o} hk hne =>
    Below.heap_setCell w _ _ k (fun e => hne (by subst e; exact Option.some.inj (hk.symm.trans hba)))
  obtain ⟨es, clock, hm, _⟩ := h.mp.is
  obtain ⟨es2, clock2, ht, _⟩ := h.tp.is
  refine ⟨⟨h.tr.only hon fun k hk c => h.moves hk c, h.mp.kept (st hm (by simp)), h.tp.kept (st ht (by simp)), (st h.b1 (by simp)).trans h.b1, heap_setCell_same w ba 0 _ 4 _ hba, (st h.b3 (by simp)).trans h.b3, (st h.b4 (by simp)).trans h.b4, fun q v hq => ?_, h.ne⟩, hon⟩
  obtain ⟨y, h1, h2, h3, h4⟩ := h.inv q v hq
  exact ⟨y, h1, h2, h3, fun hy => hAB (h4 hy)⟩
/-- New blocks, or a block that is none of its own, make no difference. -/
theorem Lk.other {W : World} {mb tb bm ba bi bt : Nat} {w w' : World} {m : Addr → Option Nat} {A : Bool} {F : Nat → Prop} (h : Lk W mb tb bm ba bi bt w m A) (ho : Only F w w')
    (hF : ∀ k, F k → ∃ c, w.heap[k]? = some (.cells c 166 (0, 0))) : Lk W mb tb bm ba bi bt w' m A := by
  have st : ∀ {k : Nat} {o : Obj}, w.heap[k]? = some o → (∀ c, o ≠ .cells c 166 (0, 0)) → w'.heap[k]? = w.heap[k]? := fun {k o} hk hne =>
    ho.block k (Array.getElem?_eq_some_iff.1 hk).1 fun hf => by obtain ⟨c, hc⟩ := hF k hf; exact hne c (Option.some.inj (hk.symm.trans hc))
  obtain ⟨es, clock, hm, _⟩ := h.mp.is
  obtain ⟨es2, clock2, ht, _⟩ := h.tp.is
  refine ⟨h.tr.only ho fun k hk c e => ?_, h.mp.kept (st hm (by simp)), h.tp.kept (st ht (by simp)), (st h.b1 (by simp)).trans h.b1, (st h.b2 (by simp)).trans h.b2, (st h.b3 (by simp)).trans h.b3, (st h.b4 (by simp)).trans h.b4, h.inv, h.ne⟩
  obtain ⟨c', hc⟩ := hF k hk
  have := (h.tr k c e).trans e
  rw [hc] at this
  simp at this
def LPost (W : World) (mb tb bm ba bi bt : Nat) (w : World) (A : Bool) (x : Ex) (e : Ending) (w' : World) : Prop :=
  ∃ m', e = .returned (.int .u8 (x.ty : Int)) ∧ Lk W mb tb bm ba bi bt w' m' (A || x.acc) ∧ Only (LkF mb ba) w w'
/-- Looked up: what is told of a part already. -/
theorem of_met {W : World} {mb tb bm ba bi bt : Nat} {w : World} {m : Addr → Option Nat} {A : Bool} (h : Lk W mb tb bm ba bi bt w m A) {b o : Nat} {x : Ex} (ha : At W Any b o x) {v : Nat} (hm : m ⟨b, o, none⟩ = some v) :
    Calls Try.prog 111 #[.pointer (some ⟨b, o, none⟩), ptr bm, ptr ba, ptr bi, ptr bt] w (LPost W mb tb bm ba bi bt w A x) := by
  have cm : w.cell? ⟨bm, 0, none⟩ = some (.map (some mb)) := cell_of h.b1 rfl
  obtain ⟨cur, hcur⟩ : ∃ c, W.heap[b]? = some (.cells c 27 (0, 0)) := by obtain ⟨cur, v, _, h2, _⟩ := ha; exact ⟨cur, h2⟩
  have hl := h.mp.look (keyG h.tr) (a := ⟨b, o, none⟩) ⟨cur, hcur⟩ Try.underlying161 (z := .int .u8 0) (by kernel_rfl) true
  rw [hm] at hl
  simp only [Option.elim, vB, kA, if_true, Option.isSome_some] at hl
  have HP : Hid (LPost W mb tb bm ba bi bt w A x (.returned (.int .u8 (v : Int))) w) := Lib.hid (by
    obtain ⟨y, h1, h2, h3, h4⟩ := h.inv _ _ hm
    have hxy := h2.det ha
    subst hxy
    refine ⟨m, by rw [h3], ?_, Only.refl _ _⟩
    have : (A || y.acc) = A := by
      cases hy : y.acc with
      | false => simp
      | true => rw [h4 hy]; rfl
    rw [this]
    exact h)
  clear h ha hm hcur
  unfold ptr at *
  go_enter Try.func111, Try.ntmps111
  go_wp2_with fail
  go_ret
  exact HP.out
end Go.Proofs.Ytamdbfkofdjmlaa.exp
end
section
namespace Go.Proofs.Ytamdbfkofdjmlaa.exp
set_option linter.unusedSimpArgs false
set_option linter.unusedVariables false
open Go.RowKit nam
open Go.ChangeMaps (setBlock heap_setBlock_same heap_setBlock_other)

def rowC (o : Nat) (l : List Nat) : Array Value := #[.int .u8 (o : Int), .int .u8 ((l.getD 0 0 : Nat) : Int), .int .u8 ((l.getD 1 0 : Nat) : Int), .int .u8 ((l.getD 2 0 : Nat) : Int)]
theorem rowC_key (o : Nat) (l : List Nat) : Value.agg (rowC o l) = kR (rw3 o l) := rfl
theorem rowC_snoc {o k t : Nat} {l : List Nat} (hl : l.length = k) (hk : k < 3) : (rowC o l).setIfInBounds (1 + k) (.int .u8 (t : Int)) = rowC o (l ++ [t]) := by
  match k, l, hl with
  | 0, [], _ => rfl
  | 1, [a], _ => rfl
  | 2, [a, b], _ => rfl
  | k + 3, _, _ => omega
structure LRnd (W : World) (mb tb bm ba bi bt : Nat) (w : World) (A : Bool) (x : Ex) (N k : Nat) (wr : World) (mr : Addr → Option Nat) : Prop where
  lk : Lk W mb tb bm ba bi bt wr mr (A || x.op == 4 || accs (x.args.take k))
  only : Only (LkF mb ba) w wr
  row : wr.heap[N]? = some (.cells (rowC x.op (tys (x.args.take k))) 166 (0, 0))
  hN : w.heap.size ≤ N
theorem rowC_at {o k : Nat} {l : List Nat} (hk : k < 3) : (rowC o l)[1 + k]? = some (.int .u8 ((l.getD k 0 : Nat) : Int)) := by
  rcases (show k = 0 ∨ k = 1 ∨ k = 2 by omega) with rfl | rfl | rfl <;> rfl
theorem LRnd.apart {W : World} {mb tb bm ba bi bt : Nat} {w : World} {A : Bool} {x : Ex} {N k : Nat} {wr : World} {mr : Addr → Option Nat} (h : LRnd W mb tb bm ba bi bt w A x N k wr mr) : ¬ LkF mb ba N := fun hf => by
  have hr := h.row
  rcases hf with rfl | rfl
  · obtain ⟨es, clock, h1, _⟩ := h.lk.mp.is
    rw [h1] at hr; cases hr
  · rw [h.lk.b2] at hr; simp at hr
/-- A part was told of: the next round's. -/
theorem LRnd.next {W : World} {mb tb bm ba bi bt : Nat} {w : World} {A : Bool} {x : Ex} {N k : Nat} {wr : World} {mr : Addr → Option Nat} (h : LRnd W mb tb bm ba bi bt w A x N k wr mr) (hk : k < x.args.length) (hk3 : k < 3)
    {w' : World} {m' : Addr → Option Nat} (hl : Lk W mb tb bm ba bi bt w' m' ((A || x.op == 4 || accs (x.args.take k)) || x.args[k].acc)) (ho : Only (LkF mb ba) wr w') :
    LRnd W mb tb bm ba bi bt w A x N (k + 1) (w'.setCell ⟨N, 1 + k, none⟩ (.int .u8 (x.args[k].ty : Int))) m' := by
  have hn : ¬ LkF mb ba N := fun hf => by
    have hr := h.row
    rcases hf with rfl | rfl
    · obtain ⟨es, clock, h1, _⟩ := h.lk.mp.is
      rw [h1] at hr; cases hr
    · rw [h.lk.b2] at hr; simp at hr
  have hr : w'.heap[N]? = some (.cells (rowC x.op (tys (x.args.take k))) 166 (0, 0)) := (ho.block N (Array.getElem?_eq_some_iff.1 h.row).1 hn).trans h.row
  have hon : Only (fun j => j = N) w' (w'.setCell ⟨N, 1 + k, none⟩ (.int .u8 (x.args[k].ty : Int))) := Only.setCell _ _ _ _ rfl
  refine ⟨?_, ⟨ho.os.trans h.only.os, ho.tape.trans h.only.tape, ho.output.trans h.only.output, Nat.le_trans h.only.size (Nat.le_trans ho.size hon.size), fun j hj hf => ?_⟩, ?_, h.hN⟩
  · have := hl.other hon (fun j hj => by subst hj; exact ⟨_, hr⟩)
    rw [accs_take hk, ← Bool.or_assoc]
    exact this
  · have := h.hN
    have h1 := h.only.size
    have h2 := ho.size
    rw [hon.block j (by omega) (by omega), ho.block j (by omega) hf]
    exact h.only.block j hj hf
  · rw [heap_setCell_same w' N (1 + k) _ 166 _ hr, rowC_snoc (by rw [tys_len, List.length_take]; omega) hk3, tys_take hk]
theorem fit_part {x y : Ex} (h : Fit x) (hy : y ∈ x.args) : Fit y := ((fit_eq x).1 h).2 y hy
theorem fit_three {x : Ex} (h : Fit x) : x.args.length ≤ 3 := fitsB_three ((fit_eq x).1 h).1

set_option maxHeartbeats 1600000 in
set_option maxRecDepth 1000000 in
theorem of_any (W : World) (mb tb bm ba bi bt : Nat) : ∀ (s : Nat), s ≤ 1000000 → ∀ (x : Ex), x.size ≤ s → Fit x → ∀ (w : World) (m : Addr → Option Nat) (A : Bool) (b o : Nat), Lk W mb tb bm ba bi bt w m A → At W Any b o x →
    Calls Try.prog 111 #[.pointer (some ⟨b, o, none⟩), ptr bm, ptr ba, ptr bi, ptr bt] w (LPost W mb tb bm ba bi bt w A x) := by
  intro s
  induction s with
  | zero => intro _ x hx; have := size_pos x; omega
  | succ s ih =>
    intro hs x hx hfit w m A b o h ha
    cases hm : m ⟨b, o, none⟩ with
    | some v => exact of_met h ha hm
    | none =>
    have cm : w.cell? ⟨bm, 0, none⟩ = some (.map (some mb)) := cell_of h.b1 rfl
    have hGA : GA W ⟨b, o, none⟩ := by obtain ⟨cur, v, _, h2, _⟩ := ha; exact ⟨cur, h2⟩
    have hl := h.mp.look (keyG h.tr) (a := ⟨b, o, none⟩) hGA Try.underlying161 (z := .int .u8 0) (by kernel_rfl) true
    rw [hm] at hl
    simp only [Option.elim, kA, if_true, Option.isSome_none] at hl
    have ca : w.cell? ⟨ba, 0, none⟩ = some (.bool A) := cell_of h.b2 rfl
    have fa : w.frozen? ⟨ba, 0, none⟩ = false := by simp [World.frozen?, h.b2]
    obtain ⟨AB, hAB⟩ : ∃ AB, (A || x.op == 4) = AB := ⟨_, rfl⟩
    obtain ⟨hset, hson⟩ := h.set (B := AB) (fun hA => by rw [← hAB, hA]; rfl)
    obtain ⟨cur, va, _, hcur, g0, g1, g2, hlies⟩ := ha
    have c0 : w.cell? ⟨b, o, none⟩ = some (.int .u8 (x.op : Int)) := cell_of ((h.tr b cur hcur).trans hcur) g0
    obtain ⟨a, c, rfl, hch⟩ := hlies.form
    have hsz : (w.setCell ⟨ba, 0, none⟩ (.bool AB)).heap.size = w.heap.size := by simp
    have HS := Lib.hid (And.intro hset (And.intro hson hsz)); have HGA := Lib.hid hGA
    have HAt : Hid (At W Any b o x) := Lib.hid ⟨cur, _, trivial, hcur, g0, g1, g2, hlies⟩
    have HCH := Lib.hid hch; have HCUR := Lib.hid hcur; have HAB := Lib.hid hAB; have HFIT := Lib.hid hfit
    have hop4 : ((x.op : Int) == 4) = (x.op == 4) := by rw [Bool.eq_iff_iff]; simp only [beq_iff_eq]; omega
    clear h hset hson hcur hch hlies hfit hm hGA g1 hsz
    unfold ptr
    go_enter Try.func111, Try.ntmps111
    go_upto_region 4 with fail
    go_cut [26] (fun t w1 => t = .bool AB ∧ w1 = w.setCell ⟨ba, 0, none⟩ (.bool AB))
    case first =>
      cases A with
      | true =>
        rw [Bool.true_or] at hAB
        subst hAB
        go_wp2_with fail
        go_meet
        exact ⟨rfl, rfl⟩
      | false =>
        rw [Bool.false_or] at hAB
        rw [hAB] at hop4
        go_wp2_with fail
        go_meet
        exact ⟨rfl, rfl⟩
    case rest =>
      rename World => w1
      obtain ⟨rfl, rfl⟩ := hcut
      clear c0 cm ca fa hl
      obtain ⟨w1, hw1⟩ : ∃ w1, w.setCell ⟨ba, 0, none⟩ (.bool AB) = w1 := ⟨_, rfl⟩
      rw [hw1] at HS ⊢
      clear hw1
      have c0 : w1.cell? ⟨b, o, none⟩ = some (.int .u8 (x.op : Int)) := cell_of ((HS.out.1.tr b cur HCUR.out).trans HCUR.out) g0
      have c2 : w1.cell? ⟨b, o + 2, none⟩ = some (.slice a x.args.length c) := cell_of ((HS.out.1.tr b cur HCUR.out).trans HCUR.out) g2
      obtain ⟨N, hN⟩ : ∃ N, w1.heap.size = N := ⟨_, rfl⟩
      obtain ⟨W2, hW2⟩ : ∃ W2, w1.alloc (.cells #[.int .u8 (x.op : Int), .int .u8 0, .int .u8 0, .int .u8 0] 166) = W2 := ⟨_, rfl⟩
      have HR0 : Hid (LRnd W mb tb bm ba bi bt w A x N 0 W2 m ∧ W2.cell? ⟨b, o + 2, none⟩ = some (.slice a x.args.length c)) := Lib.hid (by
        obtain ⟨lk1, on1, sz1⟩ := HS.out
        have hb : Below w1.heap.size w1 W2 := by rw [← hW2]; exact (Below.refl _ _).alloc (Nat.le_refl _) _
        have ho : Only (fun _ => False) w1 W2 := Only.of_below hb
        refine ⟨⟨?_, on1.then (ho.mono fun _ hf => hf.elim), ?_, by omega⟩, ?_⟩
        · have := lk1.other ho (fun k hk => hk.elim)
          rw [List.take_zero, accs_nil, Bool.or_false, HAB.out]
          exact this
        · rw [← hW2, List.take_zero, tys_nil]
          exact heap_last hN.symm
        · exact cell_of ((((lk1.other ho (fun k hk => hk.elim)).tr b cur HCUR.out)).trans HCUR.out) g2)
      have HW2 := Lib.hid hW2; clear hW2
      go_upto_region 6 with fail
      rw [HW2.out]
      have c3 := HR0.out.2
      clear c0 c2 hN
      go_wp2_with fail
      go_loopg [37] x.args.length (fun g v37 wr => ∃ (k : Nat) (mr : Addr → Option Nat), k + g = x.args.length ∧ v37 = .int .i64 (k : Int) ∧ LRnd W mb tb bm ba bi bt w A x N k wr mr)
      case atStart => exact ⟨0, m, by omega, rfl, HR0.out.1⟩
      case round =>
        rename World => wr
        obtain ⟨k, mr, hk, rfl, hrel⟩ := hrel
        have HR := Lib.hid hrel; clear hrel
        have hlen3 := fit_three HFIT.out
        by_cases hk' : k < x.args.length
        · obtain ⟨b', rfl, hel⟩ := HCH.out (by omega)
          have HAK := Lib.hid (hel k hk'); clear hel
          have hcn := size_arg (List.getElem_mem hk')
          have hkn : (k : Int) < (x.args.length : Int) := by omega
          have hk3 : (k : Int) < 3 := by omega
          have s2 : wr.cell? ⟨b, o + 2, none⟩ = some (.slice (some ⟨b', 0, none⟩) x.args.length c) := cell_of ((HR.out.lk.tr b cur HCUR.out).trans HCUR.out) g2
          have si : wr.cell? ⟨bi, 0, none⟩ = some (.func (.func 111) #[] #[ptr bm, ptr ba, ptr bi, ptr bt]) := cell_of HR.out.lk.b3 rfl
          have HC := Lib.hid (ih (by omega) x.args[k] (by omega) (fit_part HFIT.out (List.getElem_mem hk')) wr.drew mr _ b' (k * 3) HR.out.lk.drew HAK.out)
          unfold ptr at HC si
          obtain ⟨tk, htk⟩ : ∃ tk : Nat, x.args[k].ty = tk := ⟨_, rfl⟩
          have HTK := Lib.hid htk
          rw [show LPost W mb tb bm ba bi bt wr.drew (A || x.op == 4 || accs (x.args.take k)) x.args[k] = fun e w' => ∃ m', e = .returned (.int .u8 (tk : Int)) ∧ Lk W mb tb bm ba bi bt w' m' ((A || x.op == 4 || accs (x.args.take k)) || x.args[k].acc) ∧ Only (LkF mb ba) wr.drew w' by rw [← htk]; rfl] at HC
          clear htk
          have HCC : Hid (Calls Try.prog 111 #[.pointer (some ⟨b', k * 3, none⟩), .pointer (some ⟨bm, 0, none⟩), .pointer (some ⟨ba, 0, none⟩), .pointer (some ⟨bi, 0, none⟩), .pointer (some ⟨bt, 0, none⟩)] wr.drew (fun e w' => e = .returned (.int .u8 (tk : Int)) ∧ w'.cell? ⟨N, 1 + k, none⟩ = some (.int .u8 (((tys (x.args.take k)).getD k 0 : Nat) : Int)) ∧ w'.frozen? ⟨N, 1 + k, none⟩ = false ∧ ∃ m', LRnd W mb tb bm ba bi bt w A x N (k + 1) (w'.setCell ⟨N, 1 + k, none⟩ (.int .u8 (tk : Int))) m')) := Lib.hid (HC.out.mono (fun e w' he => by
            obtain ⟨m', rfl, lk3, on3⟩ := he
            have hrow : w'.heap[N]? = some (.cells (rowC x.op (tys (x.args.take k))) 166 (0, 0)) := (on3.of_drew.block N (Array.getElem?_eq_some_iff.1 HR.out.row).1 HR.out.apart).trans HR.out.row
            refine ⟨rfl, cell_of hrow (rowC_at (by omega)), by simp [World.frozen?, hrow], m', ?_⟩
            have := HR.out.next hk' (by omega) lk3 on3.of_drew
            rw [HTK.out] at this
            exact this))
          go_upto_region 9 with fail
          go_region_with (go_at_call 111; (refine HCC.out.mono ?_); rintro e w3 ⟨rfl, d3, f3, hx3⟩; have HX3 := Lib.hid hx3; clear hx3)
          all_goals (
            obtain ⟨m4, hn4⟩ := HX3.out
            obtain ⟨w4, hw4⟩ : ∃ w4, w3.setCell ⟨N, 1 + k, none⟩ (.int .u8 (tk : Int)) = w4 := ⟨_, rfl⟩
            rw [hw4] at hn4 ⊢
            have HN := Lib.hid hn4; clear hn4 hw4 HX3 d3 f3
            go_wp2_with fail
            go_roundg (gk - 1)
            case measure => omega
            case rel => exact ⟨k + 1, m4, by omega, by go_num, HN.out⟩)
        · obtain rfl : k = x.args.length := by omega
          have hrow := HR.out.row
          have hlk := HR.out.lk.drew
          have hon := HR.out.only
          rw [List.take_length] at hrow hlk
          have hacc : (A || x.op == 4 || accs x.args) = (A || x.acc) := by rw [acc_eq, Bool.or_assoc]
          rw [hacc] at hlk
          obtain ⟨t0, h0⟩ : ∃ t : Nat, (tys x.args).getD 0 0 = t := ⟨_, rfl⟩
          obtain ⟨t1, h1⟩ : ∃ t : Nat, (tys x.args).getD 1 0 = t := ⟨_, rfl⟩
          obtain ⟨t2, h2⟩ : ∃ t : Nat, (tys x.args).getD 2 0 = t := ⟨_, rfl⟩
          unfold rowC at hrow
          rw [h0, h1, h2] at hrow
          have hty : x.ty = (tab (x.op, t0, t1, t2)).getD 0 := by rw [ty_eq, tyRow, rw3, h0, h1, h2]
          have n0 : wr.cell? ⟨N, 0, none⟩ = some (.int .u8 (x.op : Int)) := cell_of hrow rfl
          have n1 : wr.cell? ⟨N, 1, none⟩ = some (.int .u8 (t0 : Int)) := cell_of hrow rfl
          have n2 : wr.cell? ⟨N, 2, none⟩ = some (.int .u8 (t1 : Int)) := cell_of hrow rfl
          have n3 : wr.cell? ⟨N, 3, none⟩ = some (.int .u8 (t2 : Int)) := cell_of hrow rfl
          have e1 : wr.cell? ⟨bm, 0, none⟩ = some (.map (some mb)) := cell_of HR.out.lk.b1 rfl
          have e4 : wr.cell? ⟨bt, 0, none⟩ = some (.map (some tb)) := cell_of HR.out.lk.b4 rfl
          obtain ⟨tx, htx⟩ : ∃ t : Nat, x.ty = t := ⟨_, rfl⟩
          rw [htx] at hty
          have hlt := hlk.tp.look (keyR wr.drew) (a := (x.op, t0, t1, t2)) trivial Try.underlying159 (z := .int .u8 0) (by kernel_rfl) false
          simp only [Bool.false_eq_true, if_false] at hlt
          rw [show (tab (x.op, t0, t1, t2)).elim (.int .u8 0) vB = .int .u8 (tx : Int) by rw [hty]; cases tab (x.op, t0, t1, t2) <;> rfl] at hlt
          unfold kR at hlt
          obtain ⟨ob, hst, hpm, es, clock, hmb⟩ := hlk.mp.store (keyG hlk.tr) (a := ⟨b, o, none⟩) HGA.out Try.underlying161 tx
          simp only [vB, kA] at hst
          have HF : Hid (LPost W mb tb bm ba bi bt w A x (.returned (.int .u8 (tx : Int))) (setBlock wr.drew mb ob)) := Lib.hid (by
            have hO : Only (fun j => j = mb) wr.drew (setBlock wr.drew mb ob) := Only.setBlock hmb _ rfl
            refine ⟨upd mr ⟨b, o, none⟩ tx, by rw [htx], ?_, hon.then (hO.of_drew.mono fun _ h => .inl h)⟩
            have st : ∀ {j : Nat} {c : Array Value} {t : TypeId} {fr : Nat × Nat}, wr.heap[j]? = some (.cells c t fr) → (setBlock wr.drew mb ob).heap[j]? = some (.cells c t fr) := fun {j c t fr} hj =>
              (heap_setBlock_other hmb ob (fun e => by subst e; have h5 : wr.heap[j]? = some (.map es clock) := hmb; rw [h5] at hj; cases hj)).trans hj
            refine ⟨hlk.tr.only hO fun j hj c => hlk.moves (.inl hj) c, hpm, hlk.tp.kept (heap_setBlock_other hmb ob (Ne.symm hlk.ne)), st hlk.b1, st hlk.b2, st hlk.b3, st hlk.b4, fun q v hq => ?_, hlk.ne⟩
            by_cases hqp : q = ⟨b, o, none⟩
            · subst hqp
              rw [upd_same] at hq
              exact ⟨x, rfl, HAt.out, (Option.some.inj hq).symm.trans htx.symm, fun hx => by rw [hx, Bool.or_true]⟩
            · rw [upd_other _ _ hqp] at hq
              exact hlk.inv q v hq)
          obtain ⟨w5, hw5⟩ : ∃ w5, setBlock wr.drew mb ob = w5 := ⟨_, rfl⟩
          have hkg : KeyT Try.prog w5 kA (GA W) 146 := keyG (by obtain ⟨m', _, hl, _⟩ := HF.out; rw [hw5] at hl; exact hl.tr)
          rw [hw5] at hst hpm HF
          have hl5 := hpm.look hkg (a := ⟨b, o, none⟩) HGA.out Try.underlying161 (z := .int .u8 0) (by kernel_rfl) false
          rw [upd_same] at hl5
          simp only [Option.elim, vB, kA, Bool.false_eq_true, if_false] at hl5
          have e5 : w5.cell? ⟨bm, 0, none⟩ = some (.map (some mb)) := by obtain ⟨m', _, hl, _⟩ := HF.out; exact cell_of hl.b1 rfl
          clear hw5 hpm hlk hon hrow hacc h0 h1 h2 hty htx hmb hkg
          have hkn : ¬ ((x.args.length : Int) < (x.args.length : Int)) := by omega
          go_upto_region 11 with fail
          go_region
          go_wp2_with fail
          go_ret
          exact HF.out
end Go.Proofs.Ytamdbfkofdjmlaa.exp
end
section
namespace Go.Proofs.Ytamdbfkofdjmlaa.exp
set_option linter.unusedSimpArgs false
set_option linter.unusedVariables false
open Go.RowKit nam
open Go.ChangeMaps (setBlock heap_setBlock_same heap_setBlock_other)

set_option maxRecDepth 1000000 in
theorem look_any {w : World} {b o : Nat} {x : Ex} (ha : At w Any b o x) (hs : x.size ≤ 1000000) (hf : Fit x) :
    Calls Try.prog 97 #[.pointer (some ⟨b, o, none⟩)] w fun e w' => e = .returned (.tuple #[.int .u8 (x.ty : Int), .bool x.acc]) ∧ Below w.heap.size w w' := by
  have hmm := @run_makeMap Try.prog
  obtain ⟨ax, hax⟩ : ∃ c, x.acc = c := ⟨_, rfl⟩
  obtain ⟨tx, htx⟩ : ∃ c : Nat, x.ty = c := ⟨_, rfl⟩
  rw [hax, htx]
  have HAX := Lib.hid hax; have HTX := Lib.hid htx
  clear hax htx
  obtain ⟨N, hN⟩ : ∃ N, w.heap.size = N := ⟨_, rfl⟩
  obtain ⟨W1, hW1⟩ : ∃ W, w.alloc (.cells #[.bool false] 4) = W := ⟨_, rfl⟩
  have q1 : W1.heap[N]? = some (.cells #[.bool false] 4 (0, 0)) := by rw [← hW1]; exact heap_last hN.symm
  have s1 : W1.heap.size = N + 1 := by rw [← hW1, ← hN]; simp
  have hb1 : Below w.heap.size w W1 := by rw [← hW1]; exact (Below.refl _ _).alloc (Nat.le_refl _) _
  have HT := Lib.hid (table_any W1)
  have H1 := Lib.hid (And.intro q1 (And.intro s1 hb1)); have HA := Lib.hid ha; have HN := Lib.hid hN; have HF := Lib.hid hf
  clear q1 s1 hb1 ha hf
  go_enter Try.func97, Try.ntmps97
  go_wp2_with fail
  refine HT.out.mono ?_
  rintro e w2 ⟨tb, rfl, htb, hpm, hb2⟩
  obtain ⟨q1, s1, hb1⟩ := H1.out
  obtain ⟨T, hT⟩ : ∃ T, w2.heap.size = T := ⟨_, rfl⟩
  obtain ⟨W6, hW6⟩ : ∃ W, (((w2.alloc (.cells #[.map (some tb)] 159)).alloc (.map #[] 0)).alloc (.cells #[.map (some (T + 1))] 161)).alloc (.cells #[.nilFunc] 162) = W := ⟨_, rfl⟩
  obtain ⟨W7, hW7⟩ : ∃ W7, W6.setCell ⟨T + 1 + 1 + 1, 0, none⟩ (.func (.func 111) #[] #[ptr (T + 1 + 1), ptr N, ptr (T + 1 + 1 + 1), ptr T]) = W7 := ⟨_, rfl⟩
  have hs2 := hb2.size
  have r1 : W6.heap[N]? = some (.cells #[.bool false] 4 (0, 0)) := by
    rw [← hW6]
    exact heap_old (heap_old (heap_old (heap_old ((hb2.block N (by omega)).trans q1))))
  have r4 : W6.heap[T]? = some (.cells #[.map (some tb)] 159 (0, 0)) := by rw [← hW6]; exact heap_old (heap_old (heap_old (heap_last hT.symm)))
  have r5 : W6.heap[T + 1]? = some (.map #[] 0) := by rw [← hW6]; exact heap_old (heap_old (heap_last (by simp [hT])))
  have r6 : W6.heap[T + 1 + 1]? = some (.cells #[.map (some (T + 1))] 161 (0, 0)) := by rw [← hW6]; exact heap_old (heap_last (by simp [hT]))
  have r7 : W6.heap[T + 1 + 1 + 1]? = some (.cells #[.nilFunc] 162 (0, 0)) := by rw [← hW6]; exact heap_last (by simp [hT])
  have gb : Below w2.heap.size w2 W6 := by
    rw [← hW6]
    exact ((((Below.refl _ _).alloc (Nat.le_refl _) _).alloc (by simp) _).alloc (by simp; omega) _).alloc (by simp; omega) _
  have hbb : Below w.heap.size w W7 := by
    rw [← hW7]
    exact ((hb1.trans (hb2.mono (by omega))).trans (gb.mono (by omega))).setCell (by show w.heap.size ≤ T + 1 + 1 + 1; omega) _
  have hlt := hpm.lt
  have hlk : Lk w (T + 1) tb (T + 1 + 1) N (T + 1 + 1 + 1) T W7 (fun _ => none) false := by
    rw [← hW7]
    refine ⟨fun b c hb => ?_, ⟨#[], 0, heap_set r5 (by omega), by simp, by simp, by simp⟩, hpm.kept ?_, heap_set r6 (by omega), heap_set r1 (by omega), heap_setCell_same W6 _ 0 _ 162 _ r7, heap_set r4 (by omega), fun q v hq => (by cases hq), by omega⟩
    · have hl := (Array.getElem?_eq_some_iff.1 hb).1
      rw [hW7]
      exact hbb.block b hl
    · rw [Below.heap_setCell _ _ _ _ (by show tb ≠ T + 1 + 1 + 1; omega)]
      exact gb.block tb (by omega)
  have c7 : W7.cell? ⟨T + 1 + 1 + 1, 0, none⟩ = some (.func (.func 111) #[] #[ptr (T + 1 + 1), ptr N, ptr (T + 1 + 1 + 1), ptr T]) := cell_of hlk.b3 rfl
  have c6 : W6.cell? ⟨T + 1 + 1 + 1, 0, none⟩ = some .nilFunc := cell_of r7 rfl
  have f6 : W6.frozen? ⟨T + 1 + 1 + 1, 0, none⟩ = false := by simp [World.frozen?, r7]
  have HO := Lib.hid (of_any w (T + 1) tb (T + 1 + 1) N (T + 1 + 1 + 1) T x.size hs x (Nat.le_refl _) HF.out W7 _ false b o hlk HA.out)
  have HB := Lib.hid hbb
  have HH := Lib.hid (And.intro hT (And.intro htb (And.intro hs2 s1)))
  clear hpm hb2 q1 hb1 r1 r4 r5 r6 r7 gb hbb hlk hlt hs2 htb s1
  unfold ptr at *
  go_wp2_with fail
  refine HO.out.mono ?_
  rintro e w8 ⟨m8, rfl, hl8, ho8⟩
  rw [Bool.false_or] at hl8
  rw [HAX.out] at hl8
  rw [HTX.out]
  have d8 : w8.heap[N]? = some (.cells #[.bool ax] 4 (0, 0)) := hl8.b2
  have c8 : w8.cell? ⟨N, 0, none⟩ = some (.bool ax) := cell_of d8 rfl
  have f8 : w8.frozen? ⟨N, 0, none⟩ = false := by simp [World.frozen?, d8]
  have d9 : (w8.setCell ⟨N, 0, none⟩ (.bool ax)).drew.cell? ⟨N, 0, none⟩ = some (.bool ax) := cell_of (w := (w8.setCell ⟨N, 0, none⟩ (.bool ax)).drew) (heap_setCell_same w8 N 0 _ 4 _ d8) rfl
  have HX : Hid (Below w.heap.size w (w8.setCell ⟨N, 0, none⟩ (.bool ax)).drew) := Lib.hid (by
    obtain ⟨hT, htb, hs2, s1⟩ := HH.out
    have hN := HN.out
    have h1 : Below w.heap.size w w8 := HB.out.trans (ho8.below (by have := HB.out.size; omega) (fun k hk => by rcases hk with rfl | rfl <;> omega))
    exact (h1.setCell (by show w.heap.size ≤ N; omega) _).drew)
  clear hl8 ho8 d8
  go_upto_region 6 with fail
  go_region
  obtain ⟨w9, hw9⟩ : ∃ w9, (w8.setCell ⟨N, 0, none⟩ (.bool ax)).drew = w9 := ⟨_, rfl⟩
  rw [hw9] at d9 HX ⊢
  clear hw9
  go_wp2_with fail
  refine bodyPost_ret (v := .tuple #[.int .u8 (tx : Int), .bool ax]) (by simp [results, Try.f97, go_sem, d9]) rfl ⟨rfl, HX.out⟩
end Go.Proofs.Ytamdbfkofdjmlaa.exp
end
section
namespace Go.Proofs.Ytamdbfkofdjmlaa.exp
set_option linter.unusedSimpArgs false
set_option linter.unusedVariables false
open Go.RowKit nam

theorem kind_any {x : Ex} {v : Value} {B : Nat → Prop} {w : World} (h : Lies w B v x.args) (hs : x.size ≤ 1000000) (acc : Bool) :
    Calls Try.prog 74 #[exV x v, .bool acc] w fun e w' => e = .returned (.tuple #[.int .u8 ((kindO x acc).1 : Int), .int .i64 (kindO x acc).2]) ∧ Below w.heap.size w w' := by
  obtain ⟨N, hN⟩ : ∃ N, w.heap.size = N := ⟨_, rfl⟩
  obtain ⟨W, hW⟩ : ∃ W, w.alloc (.cells #[.int .u8 (x.op : Int), .int .i64 x.n, v] 27) = W := ⟨_, rfl⟩
  have hwb : Below w.heap.size w W := by rw [← hW]; exact (Below.refl _ _).alloc (Nat.le_refl _) _
  have hW0 : W.heap[N]? = some (.cells #[.int .u8 (x.op : Int), .int .i64 x.n, v] 27 (0, 0)) := by rw [← hW]; exact heap_last hN.symm
  have hat : At W Any N 0 x := ⟨_, v, trivial, hW0, rfl, rfl, rfl, (h.mono (fun _ _ => trivial)).under hwb⟩
  obtain ⟨c0, c1, c2⟩ := box_cells hW
  rw [hN] at c0 c1 c2
  have HM := Lib.hid (may_any (h.under hwb) hs)
  have HB := Lib.hid hwb; have HA := Lib.hid hat; have HN := Lib.hid hN
  clear h hwb hat hW0
  obtain ⟨r, hr⟩ : ∃ r, kindO x acc = r := ⟨_, rfl⟩
  rw [hr]
  unfold exV at *
  obtain ⟨g, hg⟩ : ∃ g, good FM x 1 = g := ⟨_, rfl⟩
  rw [hg] at HM
  cases g with
  | false =>
    obtain rfl : r = (0, 2) := by rw [← hr, kindO, if_pos hg]
    clear hr hg
    go_enter Try.func74, Try.ntmps74
    go_wp2_with fail
    refine HM.out.mono ?_
    rintro e w1 ⟨rfl, hb1⟩
    have HX := Lib.hid (HB.out.trans (hb1.mono HB.out.size)); clear hb1
    go_wp2_with fail
    go_ret2
    exact ⟨rfl, HX.out⟩
  | true =>
    have hfit := ((good_FM x 1).1 hg).2
    obtain ⟨ax, hax⟩ : ∃ c, x.acc = c := ⟨_, rfl⟩
    obtain ⟨tx, htx⟩ : ∃ c : Nat, x.ty = c := ⟨_, rfl⟩
    have hk : r = if ax = true ∧ acc = false then (0, 90) else if tx = 0 then (0, 91) else (tx, 0) := by
      rw [← hr, kindO, if_neg (by rw [hg]; simp), hax, htx]
    have HF := Lib.hid hfit; have HAX := Lib.hid hax; have HTX := Lib.hid htx
    clear hr hg hfit hax htx
    have hcase : ∃ (z : Bool), ((tx : Int) == 0) = z ∧ r = if ax = true ∧ acc = false then (0, 90) else if z = true then (0, 91) else (tx, 0) := by
      refine ⟨_, rfl, ?_⟩
      rw [hk]
      by_cases h0 : tx = 0
      · simp [h0]
      · have : ((tx : Int) == 0) = false := by rw [beq_eq_false_iff_ne]; omega
        simp [h0, this]
    obtain ⟨z, hz, hk'⟩ := hcase
    clear hk
    go_enter Try.func74, Try.ntmps74
    go_wp2_with fail
    refine HM.out.mono ?_
    rintro e w1 ⟨rfl, hb1⟩
    have HL := Lib.hid (look_any (w := w1) (HA.out.under' hb1) hs HF.out)
    rw [HAX.out, HTX.out] at HL
    have HX := Lib.hid (HB.out.trans (hb1.mono HB.out.size)); clear hb1
    go_wp2_with fail
    refine HL.out.mono ?_
    rintro e w2 ⟨rfl, hb2⟩
    have HX2 := Lib.hid (HX.out.trans (hb2.mono HX.out.size)); clear hb2
    cases ax with
    | true =>
      cases acc with
      | false =>
        rw [if_pos ⟨rfl, rfl⟩] at hk'
        subst hk'
        go_wp2_with fail
        go_ret2
        exact ⟨rfl, by first | exact HX2.out | exact HN.out ▸ HX2.out⟩
      | true =>
        rw [if_neg (by simp)] at hk'
        cases z <;> (simp only [if_true, Bool.false_eq_true, if_false] at hk'; subst hk'; go_wp2_with fail; go_ret2; exact ⟨rfl, by first | exact HX2.out | exact HN.out ▸ HX2.out⟩)
    | false =>
      rw [if_neg (by simp)] at hk'
      cases z <;> (simp only [if_true, Bool.false_eq_true, if_false] at hk'; subst hk'; go_wp2_with fail; go_ret2; exact ⟨rfl, by first | exact HX2.out | exact HN.out ▸ HX2.out⟩)
end Go.Proofs.Ytamdbfkofdjmlaa.exp
end

/- Plain facts on the types of expressions. No program's run in this file. Keys that are rows: an Op and the types of its .. -/
import Derived.Test.YtepdecnegihhhaaGreatDoorMEx
import Derived.ChangeKeysEq
import Derived.Laws.StructEq
set_option linter.unusedSimpArgs false
set_option linter.unusedVariables false
section
namespace Go.Proofs.YtepdecnegihhhaaGreatDoor.exp
abbrev Rw := Nat × Nat × Nat × Nat
def put1 (m : Rw → Option Nat) (a : Rw) (v : Nat) : Rw → Option Nat := fun x => if x = a then some v else m x
def tabL : List (Rw × Nat) := [((1, 0, 0, 0), 1), ((2, 0, 0, 0), 1), ((3, 0, 0, 0), 1), ((4, 0, 0, 0), 1), ((5, 1, 0, 0), 1), ((7, 1, 1, 0), 1), ((8, 1, 1, 0), 1), ((9, 1, 1, 0), 1), ((10, 1, 1, 0), 1), ((11, 1, 1, 0), 1), ((6, 2, 0, 0), 2), ((16, 2, 2, 0), 2), ((17, 2, 2, 0), 2), ((12, 1, 1, 0), 2), ((13, 1, 1, 0), 2), ((14, 1, 1, 0), 2), ((14, 2, 2, 0), 2), ((15, 1, 1, 0), 2), ((15, 2, 2, 0), 2), ((18, 2, 1, 1), 1), ((18, 2, 2, 2), 2)]
def tabO : List (Rw × Nat) → (Rw → Option Nat) → Rw → Option Nat
 | [], m => m
 | p :: l, m => tabO l (put1 m p.1 p.2)
def tab : Rw → Option Nat := tabO tabL fun _ => none
def rw3 (o : Nat) (l : List Nat) : Rw := (o, l.getD 0 0, l.getD 1 0, l.getD 2 0)
def tyRow (o : Nat) (l : List Nat) : Nat := (tab (rw3 o l)).getD 0
mutual
def Ex.ty : Ex → Nat
 | .mk o _ l => tyRow o (tys l)
def tys : List Ex → List Nat
 | [] => []
 | x :: l => x.ty :: tys l
end
mutual
def Ex.acc : Ex → Bool
 | .mk o _ l => o == 4 || accs l
def accs : List Ex → Bool
 | [] => false
 | x :: l => x.acc || accs l
end
theorem ty_eq (x : Ex) : x.ty = tyRow x.op (tys x.args) := by cases x; rw [Ex.ty]; rfl
theorem acc_eq (x : Ex) : x.acc = (x.op == 4 || accs x.args) := by cases x; rw [Ex.acc]; rfl
theorem tys_nil : tys [] = [] := by rw [tys]
theorem tys_cons (x : Ex) (l : List Ex) : tys (x :: l) = x.ty :: tys l := by rw [tys]
theorem accs_nil : accs [] = false := by rw [accs]
theorem accs_cons (x : Ex) (l : List Ex) : accs (x :: l) = (x.acc || accs l) := by rw [accs]
theorem tys_map (l : List Ex) : tys l = l.map Ex.ty := by
 induction l with
 | nil => rw [tys_nil]; rfl
 | cons x l ih => rw [tys_cons, ih]; rfl
theorem accs_any (l : List Ex) : accs l = l.any Ex.acc := by
 induction l with
 | nil => rw [accs_nil]; rfl
 | cons x l ih => rw [accs_cons, ih]; rfl
theorem tys_len (l : List Ex) : (tys l).length = l.length := by rw [tys_map, List.length_map]
theorem tys_take {l : List Ex} {k : Nat} (hk : k < l.length) : tys (l.take (k + 1)) = tys (l.take k) ++ [l[k].ty] := by
 rw [tys_map, tys_map, List.take_succ_eq_append_getElem hk, List.map_append]; rfl
theorem accs_take {l : List Ex} {k : Nat} (hk : k < l.length) : accs (l.take (k + 1)) = (accs (l.take k) || l[k].acc) := by
 rw [accs_any, accs_any, List.take_succ_eq_append_getElem hk, List.any_append]; simp
theorem fitsB_three {o m : Nat} {n : Int} (h : fitsB o n m = true) : m ≤ 3 := by
 unfold fitsB at h
 split at h
 · cases h
 split at h
 · simp at h; omega
 split at h
 · simp at h; omega
 split at h
 · simp at h; omega
 · simp at h; omega
def kindO (x : Ex) (acc : Bool) : Nat × Int := if good FM x 1 = false then (0, 2) else if x.acc = true ∧ acc = false then (0, 90) else if x.ty = 0 then (0, 91) else (x.ty, 0)
end Go.Proofs.YtepdecnegihhhaaGreatDoor.exp
end
section
namespace Go.Proofs.YtepdecnegihhhaaGreatDoor.exp
open Go.RowKit nam
open Go.ChangeMaps (setBlock heap_setBlock_same heap_setBlock_other)
def kR (r : Rw) : Value := .agg #[.int .u8 (r.1 : Int), .int .u8 (r.2.1 : Int), .int .u8 (r.2.2.1 : Int), .int .u8 (r.2.2.2 : Int)]
def vB (n : Nat) : Value := .int .u8 (n : Int)
set_option maxRecDepth 1000000 in
theorem int_eq (d : Nat) (a b : Nat) (w : World) : (Op.equalIn (d + 1) 5 (.int .u8 (a : Int)) (.int .u8 (b : Int))).run Tryz.prog w = .ok (decide (a = b)) w := by
 have hu : Tryz.prog.underlying 5 = some (.int .u8) := by kernel_rfl
 rw [run_equalIn_int w d 5 .u8 .u8 _ _ hu]
 congr 1
 rw [Bool.eq_iff_iff]
 simp only [beq_iff_eq, decide_eq_true_eq]
 omega
theorem rpart0 (a b c d : Value) (w : World) : (part 5 #[a, b, c, d] 0).run Tryz.prog w = .ok a w := by kernel_rfl
theorem rpart3 (a b c d : Value) (w : World) : (part 299 #[a, b, c, d] 1).run Tryz.prog w = .ok (.agg #[b, c, d]) w := by kernel_rfl
theorem apart0 (b c d : Value) (w : World) : (part 5 #[b, c, d] 0).run Tryz.prog w = .ok b w := by kernel_rfl
theorem apart1 (b c d : Value) (w : World) : (part 5 #[b, c, d] 1).run Tryz.prog w = .ok c w := by kernel_rfl
theorem apart2 (b c d : Value) (w : World) : (part 5 #[b, c, d] 2).run Tryz.prog w = .ok d w := by kernel_rfl
theorem cells5 : Tryz.prog.cellsOf 5 = 1 := by kernel_rfl
theorem und63 : Tryz.prog.underlying 299 = some (.array 3 5) := by kernel_rfl
theorem und65 : Tryz.prog.underlying 301 = some (.struct (Tryz.prog.fieldsOf 301)) := by kernel_rfl
theorem stood65 : Tryz.prog.stoodInHeld 301 = false := by kernel_rfl
theorem fields65 : (Tryz.prog.fieldsOf 301).toList.map (fun f => (f.name == "_", f.type, f.offset)) = [(false, 5, 0), (false, 299, 1)] := by kernel_rfl
theorem run_equalIn_arr (d : Nat) (w : World) (b c e b' c' e' : Nat) : (Op.equalIn (d + 2) 299 (.agg #[.int .u8 (b : Int), .int .u8 (c : Int), .int .u8 (e : Int)]) (.agg #[.int .u8 (b' : Int), .int .u8 (c' : Int), .int .u8 (e' : Int)])).run Tryz.prog w = .ok (decide (b = b' ∧ c = c' ∧ e = e')) w := by
 have hte : (Tryz.prog.info? 5).isSome = true := by kernel_rfl
 obtain ⟨i, hi⟩ := Option.isSome_iff_exists.1 hte
 rw [show d + 2 = (d + 1) + 1 from rfl, run_equalIn_array w (d + 1) _ _ und63 hi, cells5, show List.range 3 = [0, 1, 2] from rfl]
 by_cases h1 : b = b' <;> by_cases h2 : c = c' <;> by_cases h3 : e = e' <;>
  simp [Op.eqItems, apart0, apart1, apart2, int_eq, h1, h2, h3]
theorem two_fields {fs : List Field} (h : fs.map (fun f => (f.name == "_", f.type, f.offset)) = [(false, 5, 0), (false, 299, 1)]) : ∃ f g, fs = [f, g] ∧ f.name ≠ "_" ∧ f.type = 5 ∧ f.offset = 0 ∧ g.name ≠ "_" ∧ g.type = 299 ∧ g.offset = 1 := by
 rcases fs with _ | ⟨f, _ | ⟨g, _ | ⟨k, l⟩⟩⟩
 · simp at h
 · simp at h
 · simp only [List.map_cons, List.map_nil, List.cons.injEq, Prod.mk.injEq, and_true, beq_eq_false_iff_ne] at h
   exact ⟨f, g, rfl, h.1.1, h.1.2.1, h.1.2.2, h.2.1, h.2.2.1, h.2.2.2⟩
 · simp at h
theorem run_equalIn_row (d : Nat) (w : World) (a b : Rw) : (Op.equalIn (d + 3) 301 (kR a) (kR b)).run Tryz.prog w = .ok (decide (a = b)) w := by
 obtain ⟨a0, a1, a2, a3⟩ := a
 obtain ⟨b0, b1, b2, b3⟩ := b
 unfold kR
 rw [show d + 3 = (d + 2) + 1 from rfl, run_equalIn_struct w (d + 2) 301 _ _ und65 stood65]
 obtain ⟨f, g, hfg, n1, t1, o1, n2, t2, o2⟩ := two_fields fields65
 rw [hfg]
 have e1 : ∀ (a b : Nat) w, (Op.equalIn (d + 2) 5 (.int .u8 (a : Int)) (.int .u8 (b : Int))).run Tryz.prog w = .ok (decide (a = b)) w := int_eq (d + 1)
 have e2 := run_equalIn_arr d
 by_cases h1 : a0 = b0
 · by_cases h2 : a1 = b1 ∧ a2 = b2 ∧ a3 = b3
   · simp [Op.eqFields, n1, n2, t1, t2, o1, o2, rpart0, rpart3, e1, e2, h1, h2]
   · simp [Op.eqFields, n1, n2, t1, t2, o1, o2, rpart0, rpart3, e1, e2, h1, h2]
 · simp [Op.eqFields, n1, n2, t1, t2, o1, o2, rpart0, rpart3, e1, e2, h1]
theorem run_checkKey_row (em : Bool) (d : Nat) (a : Rw) (w : World) : (Instr.checkKey em (d + 3) 301 (kR a)).run Tryz.prog w = .ok () w := by
 have hi5 : ∀ k x w, (Instr.checkKey em (k + 1) 5 (.int .u8 x)).run Tryz.prog w = .ok () w := fun k x w => by
  have hu : Tryz.prog.underlying 5 = some (.int .u8) := by kernel_rfl
  simp [Instr.checkKey, run_underlying hu]
 have hte : (Tryz.prog.info? 5).isSome = true := by kernel_rfl
 obtain ⟨i, hi⟩ := Option.isSome_iff_exists.1 hte
 have ha : ∀ b c e w, (Instr.checkKey em (d + 2) 299 (.agg #[.int .u8 b, .int .u8 c, .int .u8 e])).run Tryz.prog w = .ok () w := fun b c e w => by
  rw [show d + 2 = (d + 1) + 1 from rfl, Instr.checkKey]
  simp only [Sem.run_bind, run_underlying und63, Result.andThen_ok]
  simp only [Std.Legacy.Range.forIn_eq_forIn_range', Std.Legacy.Range.size, Nat.sub_zero, Nat.add_one_sub_one, Nat.div_one]
  rw [show List.range' 0 3 1 = [0, 1, 2] from rfl]
  simp only [List.forIn_cons, List.forIn_nil, Sem.run_bind, run_sizeOf w hi, cells5, Nat.zero_mul, Nat.one_mul, Nat.mul_one, apart0, apart1, apart2, Result.andThen_ok, hi5, Sem.run_pure]
 obtain ⟨a0, a1, a2, a3⟩ := a
 unfold kR
 rw [show d + 3 = (d + 2) + 1 from rfl, Instr.checkKey]
 simp only [Sem.run_bind, run_underlying und65, Result.andThen_ok]
 rw [← Array.forIn_toList]
 obtain ⟨f, g, hfg, n1, t1, o1, n2, t2, o2⟩ := two_fields fields65
 rw [hfg]
 simp [n1, n2, t1, t2, o1, o2, rpart0, rpart3, hi5, ha]
theorem keyR (w : World) : KeyT Tryz.prog w kR (fun _ => True) 301 where
 under := ⟨_, und65, fun a v => rfl⟩
 inj a b h := by
  unfold kR at h
  simp only [Value.agg.injEq, Array.mk.injEq, List.cons.injEq, Value.int.injEq, true_and, and_true] at h
  obtain ⟨a0, a1, a2, a3⟩ := a
  obtain ⟨b0, b1, b2, b3⟩ := b
  simp only at h
  obtain ⟨h1, h2, h3, h4⟩ := h
  have := Int.ofNat.inj h1; have := Int.ofNat.inj h2; have := Int.ofNat.inj h3; have := Int.ofNat.inj h4
  subst_vars
  rfl
 eq a b _ _ := ⟨decide (a = b), by unfold Op.equal Op.maxDepth; exact run_equalIn_row 9997 w a b, by simp⟩
 check em a := run_checkKey_row em 9997 a w
 stays a := by
  have : ∀ d, Instr.sameBits (d + 2) (kR a) (kR a) = true := fun d => by simp [Instr.sameBits, kR]
  simp [Instr.keyThatStays, this 9998]
end Go.Proofs.YtepdecnegihhhaaGreatDoor.exp
end
section
namespace Go.Proofs.YtepdecnegihhhaaGreatDoor.exp
open Go.RowKit nam
open Go.ChangeMaps (setBlock heap_setBlock_same heap_setBlock_other)
theorem PM.congr {P : Program} {w : World} {α β : Type} [DecidableEq α] {κ : α → Value} {ν : β → Value} {G : α → Prop} {b : Nat} {m m' : α → Option β} (h : PM κ ν G w b m) (e : ∀ a, m a = m' a) : PM κ ν G w b m' := by
 have : m = m' := funext e
 exact this ▸ h
theorem row_step {w : World} {b : Nat} {m : Rw → Option Nat} (h : PM kR vB (fun _ => True) w b m) (a : Rw) (v : Nat) : ∃ w', (Instr.mapUpdate 294 (.map (some b)) (kR a) (vB v)).run Tryz.prog w = .ok () w' ∧ PM kR vB (fun _ => True) w' b (put1 m a v) ∧ Only (fun k => k = b) w w' := by
 obtain ⟨o, h1, h2, es, clock, h3⟩ := h.store (keyR w) (a := a) trivial Tryz.underlying294 v
 exact ⟨_, h1, h2, Only.setBlock h3 o rfl⟩
structure Ent where
 i : Nat
 t : Nat
 k : Rw
 v : Nat
 deriving DecidableEq
def chkA (md : Region.Mode) (ops : Array Oper) (base : Array Bool) (idx : List Nat) : Bool :=
 idx.all fun i => match ops[i]? with
  | some o => o.after.all fun ed => !Region.binds md ed || (base.getD ed.on false && !idx.contains ed.on)
  | none => false
def chkB (md : Region.Mode) (ops : Array Oper) (base : Array Bool) (idx : List Nat) : Bool :=
 (List.range ops.size).all fun i => base.getD i true || idx.contains i || match ops[i]? with
  | some o => idx.all fun j => o.after.any fun ed => Region.binds md ed && ed.on == j
  | none => false
def chkC (base fin : Array Bool) (idx : List Nat) : Bool :=
 fin.size == base.size && (List.range base.size).all (fun i => fin.getD i false == (base.getD i false || idx.contains i)) && idx.all (fun i => decide (i < base.size))
theorem filter_less {p q : Nat → Bool} {i : Nat} : ∀ {l : List Nat}, l.Nodup → i ∈ l → p i = true → q i = false → (∀ j ∈ l, j ≠ i → q j = p j) → (l.filter q).length + 1 = (l.filter p).length
 | x :: l, hn, hi, hp, hq, hh => by
  rw [List.nodup_cons] at hn
  by_cases hx : x = i
  · subst hx
    rw [List.filter_cons_of_neg (by simp [hq]), List.filter_cons_of_pos hp, List.length_cons]
    have : l.filter q = l.filter p := List.filter_congr fun j hj => hh j (by simp [hj]) (fun e => hn.1 (e ▸ hj))
    rw [this]
  · have hil : i ∈ l := by rcases List.mem_cons.1 hi with h | h; exact absurd h.symm hx; exact h
    have ih := filter_less (p := p) (q := q) hn.2 hil hp hq (fun j hj hne => hh j (by simp [hj]) hne)
    have hxx := hh x (by simp) hx
    cases hpx : p x with
    | true => rw [List.filter_cons_of_pos (by rw [hxx]; exact hpx), List.filter_cons_of_pos hpx, List.length_cons, List.length_cons, ih]
    | false => rw [List.filter_cons_of_neg (by rw [hxx, hpx]; simp), List.filter_cons_of_neg (by rw [hpx]; simp), ih]
theorem inj_map {β : Type} {f : Ent → β} : ∀ {l : List Ent}, (l.map f).Nodup → ∀ {x y : Ent}, x ∈ l → y ∈ l → f x = f y → x = y
 | z :: l, hn, x, y, hx, hy, h => by
  rw [List.map_cons, List.nodup_cons] at hn
  rcases List.mem_cons.1 hx with h1 | h1 <;> rcases List.mem_cons.1 hy with h2 | h2
  · rw [h1, h2]
  · exact absurd (by rw [← h1, h]; exact List.mem_map_of_mem h2) hn.1
  · exact absurd (by rw [← h2, ← h]; exact List.mem_map_of_mem h1) hn.1
  · exact inj_map hn.2 h1 h2 h
theorem getD_set_self {l : Array Bool} {i : Nat} {d : Bool} (h : i < l.size) : (l.setIfInBounds i true).getD i d = true := by
 simp [h]
theorem getD_set_other {l : Array Bool} {i j : Nat} {d : Bool} (h : i ≠ j) : (l.setIfInBounds i true).getD j d = l.getD j d := by
 simp [Array.getElem?_setIfInBounds_ne h]
theorem wpAny_fills {md : Region.Mode} {ops : Array Oper} {Q : Exit → Act → World → Prop} {b : Nat} {a : Act} {base fin : Array Bool} {L : List Ent} {T : Rw → Option Nat} {fe : Nat} {W : World}
  (hop : ∀ e ∈ L, ∃ o, ops[e.i]? = some o ∧ o.dst = none ∧ Region.wanted o (yielded ops a.tmps) = true ∧ o.op = .insert 294 (.tmp 1) (.tmp e.t) (.const (vB e.v)) ∧ a.eval (.tmp 1) = .map (some b) ∧ a.eval (.tmp e.t) = kR e.k)
  (hA : chkA md ops base (L.map Ent.i) = true) (hB : chkB md ops base (L.map Ent.i) = true) (hC : chkC base fin (L.map Ent.i) = true) (hU : (L.map Ent.i).all (fun i => !base.getD i true) = true)
  (hn : (L.map Ent.i).Nodup) (hk : (L.map Ent.k).Nodup) (hT : ∀ e ∈ L, T e.k = some e.v) (hT' : ∀ r v, T r = some v → ∃ e ∈ L, e.k = r)
  (hend : ∀ w', PM kR vB (fun _ => True) w' b T → Only (fun k => k = b) W w' → wpAny Tryz.prog md ops Q fe fin a w') :
  PM kR vB (fun _ => True) W b (fun _ => none) → wpAny Tryz.prog md ops Q (fe + L.length) base a W := by
 intro hW
 have key : ∀ (k : Nat) (listed : Array Bool) (w : World), (((L.map Ent.i).filter fun i => !listed.getD i true).length = k) → listed.size = base.size → (∀ i, i ∉ L.map Ent.i → listed[i]? = base[i]?) →
   (∃ S : Rw → Bool, (∀ e ∈ L, S e.k = listed.getD e.i false) ∧ PM kR vB (fun _ => True) w b (fun r => if S r then T r else none)) → Only (fun k => k = b) W w → wpAny Tryz.prog md ops Q (fe + k) listed a w := by
  unfold chkC at hC
  simp only [Bool.and_eq_true, beq_iff_eq, List.all_eq_true, List.mem_range, decide_eq_true_eq] at hC
  obtain ⟨⟨hC1, hC2⟩, hC3⟩ := hC
  intro k
  induction k with
  | zero =>
   intro listed w hc hs ho ⟨S, hS, hpm⟩ hon
   have hall : ∀ i ∈ L.map Ent.i, listed.getD i true = true := fun i hi => by
    rw [List.length_eq_zero_iff, List.filter_eq_nil_iff] at hc
    have := hc i hi
    simpa using this
   have hfin : listed = fin := by
    refine Array.ext (by rw [hs, hC1]) fun i h1 h2 => ?_
    have h3 := hC2 i (by omega)
    rw [Array.getD_eq_getD_getElem?, Array.getElem?_eq_getElem h2, Option.getD_some] at h3
    rw [h3]
    by_cases hi : i ∈ L.map Ent.i
    · have h4 := hall i hi
      rw [Array.getD_eq_getD_getElem?, Array.getElem?_eq_getElem h1, Option.getD_some] at h4
      rw [h4]
      simp [List.contains_iff_mem, hi]
    · have h4 := ho i hi
      rw [Array.getElem?_eq_getElem h1, Array.getElem?_eq_getElem (by omega)] at h4
      have h5 : (L.map Ent.i).contains i = false := by simpa [List.contains_iff_mem] using hi
      rw [h5, Bool.or_false, Array.getD_eq_getD_getElem?, Array.getElem?_eq_getElem (by omega : i < base.size), Option.getD_some]
      exact Option.some.inj h4
   subst hfin
   refine hend w (hpm.congr (P := Tryz.prog) fun r => ?_) hon
   cases ht : T r with
   | none => simp
   | some v =>
    obtain ⟨e, he, rfl⟩ := hT' r v ht
    have h1 := hall e.i (List.mem_map_of_mem he)
    have h2 := hS e he
    have h3 := hC3 e.i (List.mem_map_of_mem he)
    have h4 : listed.getD e.i false = true := by
     rw [Array.getD_eq_getD_getElem?, Array.getElem?_eq_getElem (by omega), Option.getD_some] at h1 ⊢
     exact h1
    simp [h2, h4]
  | succ k ih =>
   intro listed w hc hs ho ⟨S, hS, hpm⟩ hon
   have hne : ∃ j ∈ L.map Ent.i, listed.getD j true = false := by
    have : ((L.map Ent.i).filter fun i => !listed.getD i true) ≠ [] := fun h => by rw [h] at hc; simp at hc
    obtain ⟨j, hj⟩ := List.exists_mem_of_ne_nil _ this
    rw [List.mem_filter] at hj
    exact ⟨j, hj.1, by simpa using hj.2⟩
   obtain ⟨j0, hj0, hj0'⟩ := hne
   have hafter : ∀ i ∈ L.map Ent.i, ∃ o, ops[i]? = some o ∧ ∀ ed ∈ o.after, Region.binds md ed = true → listed.getD ed.on false = true := fun i hi => by
    unfold chkA at hA
    rw [List.all_eq_true] at hA
    have h1 := hA i hi
    cases ho1 : ops[i]? with
    | none => rw [ho1] at h1; cases h1
    | some o =>
     rw [ho1] at h1
     refine ⟨o, rfl, fun ed hed hb => ?_⟩
     have h2 := (Array.all_eq_true'.1 h1) ed hed
     rw [hb] at h2
     simp only [Bool.not_true, Bool.false_or, Bool.and_eq_true, Bool.not_eq_true', List.contains_iff_mem, decide_eq_false_iff_not] at h2
     rw [Array.getD_eq_getD_getElem?, ho ed.on (by simpa using h2.2), ← Array.getD_eq_getD_getElem?]
     exact h2.1
   have hready : ∀ i, i ∈ Region.ready md ops listed → i ∈ L.map Ent.i ∧ listed.getD i true = false := fun i hi => by
    obtain ⟨h1, o, h2, h3⟩ := mem_ready.1 hi
    refine ⟨?_, h1⟩
    apply Classical.byContradiction
    intro hni
    unfold chkB at hB
    rw [List.all_eq_true] at hB
    have h4 := hB i (List.mem_range.2 (Array.getElem?_eq_some_iff.1 h2).1)
    have h5 : base.getD i true = false := by rw [Array.getD_eq_getD_getElem?, ← ho i hni, ← Array.getD_eq_getD_getElem?]; exact h1
    have h6 : (L.map Ent.i).contains i = false := by simpa [List.contains_iff_mem] using hni
    rw [h5, h6, h2] at h4
    simp only [Bool.false_or, List.all_eq_true] at h4
    obtain ⟨ed, hed, hb⟩ := Array.any_eq_true'.1 (h4 j0 hj0)
    simp only [Bool.and_eq_true, beq_iff_eq] at hb
    have h7 := h3 ed hed hb.1
    rw [hb.2] at h7
    have h8 := hC3 j0 hj0
    rw [Array.getD_eq_getD_getElem?, Array.getElem?_eq_getElem (by omega), Option.getD_some] at h7 hj0'
    rw [hj0'] at h7
    cases h7
   rw [show fe + (k + 1) = (fe + k) + 1 from rfl]
   refine ⟨fun h => ?_, fun i hi => ?_⟩
   · have : j0 ∈ Region.ready md ops listed := by
      obtain ⟨o, h1, h2⟩ := hafter j0 hj0
      exact mem_ready.2 ⟨hj0', o, h1, h2⟩
     rw [h] at this
     cases this
   · obtain ⟨hiL, hiu⟩ := hready i hi
     obtain ⟨e, he, rfl⟩ := List.mem_map.1 hiL
     obtain ⟨o, h1, h2, h3, h4, h5, h6⟩ := hop e he
     obtain ⟨w2, r1, r2, r3⟩ := row_step hpm e.k e.v
     have hlt : e.i < listed.size := by rw [hs]; exact hC3 e.i hiL
     have hrun : (execOp a.eval o).run Tryz.prog w = .ok .skip w2 := by
      obtain ⟨dst, op, ty, pos, af, gd⟩ := o
      simp only at h4
      subst h4
      simp only [execOp, h5, h6, Sem.run_bind]
      rw [show a.eval (.const (vB e.v)) = vB e.v from rfl, r1]
      rfl
     unfold wpOp
     rw [h1]
     show if Region.wanted o (yielded ops a.tmps) = true then _ else _
     rw [if_pos h3]
     refine .inl ?_
     unfold Oper.wp
     rw [hrun]
     show wpAny _ _ _ _ _ _ (a.put o.dst undef) w2
     rw [h2]
     refine ih _ w2 ?_ (by simpa using hs) (fun j hj => ?_) ⟨fun r => S r || r == e.k, fun e' he' => ?_, r2.congr (P := Tryz.prog) fun r => ?_⟩ (hon.then r3)
     · have := filter_less (p := fun i => !listed.getD i true) (q := fun j => !(listed.setIfInBounds e.i true).getD j true) hn hiL (by simpa using hiu) (by rw [getD_set_self hlt]; rfl) (fun j _ hne => by rw [getD_set_other (Ne.symm hne)])
       omega
     · have hne : e.i ≠ j := fun h => hj (h ▸ hiL)
       rw [Array.getElem?_setIfInBounds_ne hne]
       exact ho j hj
     · by_cases hee : e' = e
       · subst hee
         rw [getD_set_self hlt]
         simp
       · have hne : e.i ≠ e'.i := fun h => hee ((inj_map hn he' he h.symm))
         have hke : e'.k ≠ e.k := fun h => hee ((inj_map hk he' he h))
         rw [getD_set_other hne, ← hS e' he']
         simp [hke]
     · unfold put1
       by_cases hr : r = e.k
       · subst hr
         simp [hT e he]
       · simp [hr]
 have h0 := key L.length base W (by
  rw [List.filter_eq_self.2 fun i hi => (List.all_eq_true.1 hU) i hi, List.length_map]) rfl (fun _ _ => rfl) ⟨fun _ => false, fun e he => ?_, by simpa using hW⟩ (Only.refl _ _)
 · exact h0
 · have h1 := List.all_eq_true.1 hU e.i (List.mem_map_of_mem he)
   unfold chkC at hC
   simp only [Bool.and_eq_true, beq_iff_eq, List.all_eq_true, List.mem_range, decide_eq_true_eq] at hC
   have h2 := hC.2 e.i (List.mem_map_of_mem he)
   simp only [Bool.not_eq_true', Array.getD_eq_getD_getElem?, Array.getElem?_eq_getElem h2, Option.getD_some] at h1 ⊢
   rw [h1]
end Go.Proofs.YtepdecnegihhhaaGreatDoor.exp
end
section
namespace Go.Proofs.YtepdecnegihhhaaGreatDoor.exp
open Go.RowKit nam
open Go.ChangeMaps (setBlock heap_setBlock_same heap_setBlock_other)
def ents : List Ent := [⟨3, 3, (1, 0, 0, 0), 1⟩, ⟨6, 5, (2, 0, 0, 0), 1⟩, ⟨9, 7, (3, 0, 0, 0), 1⟩, ⟨12, 9, (4, 0, 0, 0), 1⟩, ⟨15, 11, (5, 1, 0, 0), 1⟩, ⟨18, 13, (7, 1, 1, 0), 1⟩, ⟨21, 15, (8, 1, 1, 0), 1⟩, ⟨24, 17, (9, 1, 1, 0), 1⟩, ⟨27, 19, (10, 1, 1, 0), 1⟩, ⟨30, 21, (11, 1, 1, 0), 1⟩, ⟨33, 23, (6, 2, 0, 0), 2⟩, ⟨36, 25, (16, 2, 2, 0), 2⟩, ⟨39, 27, (17, 2, 2, 0), 2⟩, ⟨42, 29, (12, 1, 1, 0), 2⟩, ⟨45, 31, (13, 1, 1, 0), 2⟩, ⟨48, 33, (14, 1, 1, 0), 2⟩, ⟨51, 35, (14, 2, 2, 0), 2⟩, ⟨54, 37, (15, 1, 1, 0), 2⟩, ⟨57, 39, (15, 2, 2, 0), 2⟩, ⟨60, 41, (18, 2, 1, 1), 1⟩, ⟨63, 43, (18, 2, 2, 2), 2⟩]
theorem ents_tab : ∀ e ∈ ents, tab e.k = some e.v := by decide
theorem tab_in : ∀ r v, tab r = some v → ∃ e ∈ ents, e.k = r := by
 have : ∀ (l : List (Rw × Nat)) (m : Rw → Option Nat) (r : Rw) (v : Nat), tabO l m r = some v → (∃ p ∈ l, p.1 = r) ∨ ∃ u, m r = some u := by
  intro l
  induction l with
  | nil => intro m r v h; exact .inr ⟨v, h⟩
  | cons p l ih =>
   intro m r v h
   rcases ih _ r v h with ⟨q, h1, h2⟩ | ⟨u, h1⟩
   · exact .inl ⟨q, List.mem_cons_of_mem _ h1, h2⟩
   · unfold put1 at h1
     split at h1
     · rename_i hr
       exact .inl ⟨p, by simp, hr.symm⟩
     · exact .inr ⟨u, h1⟩
 intro r v h
 rcases this tabL _ r v h with ⟨p, h1, h2⟩ | ⟨u, h1⟩
 · have h3 : ∀ p ∈ tabL, ∃ e ∈ ents, e.k = p.1 := by decide
   obtain ⟨e, h4, h5⟩ := h3 p h1
   exact ⟨e, h4, h5.trans h2⟩
 · cases h1
abbrev d_ (n : Nat) : Edge := { on := n, ground := Ground.data }
abbrev p_ (n : Nat) : Edge := { on := n, ground := Ground.phase }
def pss : String := "kind.go:63"
def tOps : Array Oper := #[
 { dst := some 1, op := .makeMap 294 none, type := 294, pos := pss, after := #[], guard := none },
 { dst := some 2, op := .build 299 #[], type := 299, pos := pss, after := #[], guard := none },
 { dst := some 3, op := .build 301 #[(0, .const (.int .u8 1)), (1, .tmp 2)], type := 301, pos := pss, after := #[(d_ 1)], guard := none },
 { dst := none, op := .insert 294 (.tmp 1) (.tmp 3) (.const (.int .u8 1)), type := 0, pos := pss, after := #[(d_ 0), (d_ 2)], guard := none },
 { dst := some 4, op := .build 299 #[], type := 299, pos := pss, after := #[], guard := none },
 { dst := some 5, op := .build 301 #[(0, .const (.int .u8 2)), (1, .tmp 4)], type := 301, pos := pss, after := #[(d_ 4)], guard := none },
 { dst := none, op := .insert 294 (.tmp 1) (.tmp 5) (.const (.int .u8 1)), type := 0, pos := pss, after := #[(d_ 0), (d_ 5)], guard := none },
 { dst := some 6, op := .build 299 #[], type := 299, pos := pss, after := #[], guard := none },
 { dst := some 7, op := .build 301 #[(0, .const (.int .u8 3)), (1, .tmp 6)], type := 301, pos := pss, after := #[(d_ 7)], guard := none },
 { dst := none, op := .insert 294 (.tmp 1) (.tmp 7) (.const (.int .u8 1)), type := 0, pos := pss, after := #[(d_ 0), (d_ 8)], guard := none },
 { dst := some 8, op := .build 299 #[], type := 299, pos := pss, after := #[], guard := none },
 { dst := some 9, op := .build 301 #[(0, .const (.int .u8 4)), (1, .tmp 8)], type := 301, pos := pss, after := #[(d_ 10)], guard := none },
 { dst := none, op := .insert 294 (.tmp 1) (.tmp 9) (.const (.int .u8 1)), type := 0, pos := pss, after := #[(d_ 0), (d_ 11)], guard := none },
 { dst := some 10, op := .build 299 #[(0, .const (.int .u8 1))], type := 299, pos := pss, after := #[], guard := none },
 { dst := some 11, op := .build 301 #[(0, .const (.int .u8 5)), (1, .tmp 10)], type := 301, pos := pss, after := #[(d_ 13)], guard := none },
 { dst := none, op := .insert 294 (.tmp 1) (.tmp 11) (.const (.int .u8 1)), type := 0, pos := pss, after := #[(d_ 0), (d_ 14)], guard := none },
 { dst := some 12, op := .build 299 #[(0, .const (.int .u8 1)), (1, .const (.int .u8 1))], type := 299, pos := pss, after := #[], guard := none },
 { dst := some 13, op := .build 301 #[(0, .const (.int .u8 7)), (1, .tmp 12)], type := 301, pos := pss, after := #[(d_ 16)], guard := none },
 { dst := none, op := .insert 294 (.tmp 1) (.tmp 13) (.const (.int .u8 1)), type := 0, pos := pss, after := #[(d_ 0), (d_ 17)], guard := none },
 { dst := some 14, op := .build 299 #[(0, .const (.int .u8 1)), (1, .const (.int .u8 1))], type := 299, pos := pss, after := #[], guard := none },
 { dst := some 15, op := .build 301 #[(0, .const (.int .u8 8)), (1, .tmp 14)], type := 301, pos := pss, after := #[(d_ 19)], guard := none },
 { dst := none, op := .insert 294 (.tmp 1) (.tmp 15) (.const (.int .u8 1)), type := 0, pos := pss, after := #[(d_ 0), (d_ 20)], guard := none },
 { dst := some 16, op := .build 299 #[(0, .const (.int .u8 1)), (1, .const (.int .u8 1))], type := 299, pos := pss, after := #[], guard := none },
 { dst := some 17, op := .build 301 #[(0, .const (.int .u8 9)), (1, .tmp 16)], type := 301, pos := pss, after := #[(d_ 22)], guard := none },
 { dst := none, op := .insert 294 (.tmp 1) (.tmp 17) (.const (.int .u8 1)), type := 0, pos := pss, after := #[(d_ 0), (d_ 23)], guard := none },
 { dst := some 18, op := .build 299 #[(0, .const (.int .u8 1)), (1, .const (.int .u8 1))], type := 299, pos := pss, after := #[], guard := none },
 { dst := some 19, op := .build 301 #[(0, .const (.int .u8 10)), (1, .tmp 18)], type := 301, pos := pss, after := #[(d_ 25)], guard := none },
 { dst := none, op := .insert 294 (.tmp 1) (.tmp 19) (.const (.int .u8 1)), type := 0, pos := pss, after := #[(d_ 0), (d_ 26)], guard := none },
 { dst := some 20, op := .build 299 #[(0, .const (.int .u8 1)), (1, .const (.int .u8 1))], type := 299, pos := pss, after := #[], guard := none },
 { dst := some 21, op := .build 301 #[(0, .const (.int .u8 11)), (1, .tmp 20)], type := 301, pos := pss, after := #[(d_ 28)], guard := none },
 { dst := none, op := .insert 294 (.tmp 1) (.tmp 21) (.const (.int .u8 1)), type := 0, pos := pss, after := #[(d_ 0), (d_ 29)], guard := none },
 { dst := some 22, op := .build 299 #[(0, .const (.int .u8 2))], type := 299, pos := pss, after := #[], guard := none },
 { dst := some 23, op := .build 301 #[(0, .const (.int .u8 6)), (1, .tmp 22)], type := 301, pos := pss, after := #[(d_ 31)], guard := none },
 { dst := none, op := .insert 294 (.tmp 1) (.tmp 23) (.const (.int .u8 2)), type := 0, pos := pss, after := #[(d_ 0), (d_ 32)], guard := none },
 { dst := some 24, op := .build 299 #[(0, .const (.int .u8 2)), (1, .const (.int .u8 2))], type := 299, pos := pss, after := #[], guard := none },
 { dst := some 25, op := .build 301 #[(0, .const (.int .u8 16)), (1, .tmp 24)], type := 301, pos := pss, after := #[(d_ 34)], guard := none },
 { dst := none, op := .insert 294 (.tmp 1) (.tmp 25) (.const (.int .u8 2)), type := 0, pos := pss, after := #[(d_ 0), (d_ 35)], guard := none },
 { dst := some 26, op := .build 299 #[(0, .const (.int .u8 2)), (1, .const (.int .u8 2))], type := 299, pos := pss, after := #[], guard := none },
 { dst := some 27, op := .build 301 #[(0, .const (.int .u8 17)), (1, .tmp 26)], type := 301, pos := pss, after := #[(d_ 37)], guard := none },
 { dst := none, op := .insert 294 (.tmp 1) (.tmp 27) (.const (.int .u8 2)), type := 0, pos := pss, after := #[(d_ 0), (d_ 38)], guard := none },
 { dst := some 28, op := .build 299 #[(0, .const (.int .u8 1)), (1, .const (.int .u8 1))], type := 299, pos := pss, after := #[], guard := none },
 { dst := some 29, op := .build 301 #[(0, .const (.int .u8 12)), (1, .tmp 28)], type := 301, pos := pss, after := #[(d_ 40)], guard := none },
 { dst := none, op := .insert 294 (.tmp 1) (.tmp 29) (.const (.int .u8 2)), type := 0, pos := pss, after := #[(d_ 0), (d_ 41)], guard := none },
 { dst := some 30, op := .build 299 #[(0, .const (.int .u8 1)), (1, .const (.int .u8 1))], type := 299, pos := pss, after := #[], guard := none },
 { dst := some 31, op := .build 301 #[(0, .const (.int .u8 13)), (1, .tmp 30)], type := 301, pos := pss, after := #[(d_ 43)], guard := none },
 { dst := none, op := .insert 294 (.tmp 1) (.tmp 31) (.const (.int .u8 2)), type := 0, pos := pss, after := #[(d_ 0), (d_ 44)], guard := none },
 { dst := some 32, op := .build 299 #[(0, .const (.int .u8 1)), (1, .const (.int .u8 1))], type := 299, pos := pss, after := #[], guard := none },
 { dst := some 33, op := .build 301 #[(0, .const (.int .u8 14)), (1, .tmp 32)], type := 301, pos := pss, after := #[(d_ 46)], guard := none },
 { dst := none, op := .insert 294 (.tmp 1) (.tmp 33) (.const (.int .u8 2)), type := 0, pos := pss, after := #[(d_ 0), (d_ 47)], guard := none },
 { dst := some 34, op := .build 299 #[(0, .const (.int .u8 2)), (1, .const (.int .u8 2))], type := 299, pos := pss, after := #[], guard := none },
 { dst := some 35, op := .build 301 #[(0, .const (.int .u8 14)), (1, .tmp 34)], type := 301, pos := pss, after := #[(d_ 49)], guard := none },
 { dst := none, op := .insert 294 (.tmp 1) (.tmp 35) (.const (.int .u8 2)), type := 0, pos := pss, after := #[(d_ 0), (d_ 50)], guard := none },
 { dst := some 36, op := .build 299 #[(0, .const (.int .u8 1)), (1, .const (.int .u8 1))], type := 299, pos := pss, after := #[], guard := none },
 { dst := some 37, op := .build 301 #[(0, .const (.int .u8 15)), (1, .tmp 36)], type := 301, pos := pss, after := #[(d_ 52)], guard := none },
 { dst := none, op := .insert 294 (.tmp 1) (.tmp 37) (.const (.int .u8 2)), type := 0, pos := pss, after := #[(d_ 0), (d_ 53)], guard := none },
 { dst := some 38, op := .build 299 #[(0, .const (.int .u8 2)), (1, .const (.int .u8 2))], type := 299, pos := pss, after := #[], guard := none },
 { dst := some 39, op := .build 301 #[(0, .const (.int .u8 15)), (1, .tmp 38)], type := 301, pos := pss, after := #[(d_ 55)], guard := none },
 { dst := none, op := .insert 294 (.tmp 1) (.tmp 39) (.const (.int .u8 2)), type := 0, pos := pss, after := #[(d_ 0), (d_ 56)], guard := none },
 { dst := some 40, op := .build 299 #[(0, .const (.int .u8 2)), (1, .const (.int .u8 1)), (2, .const (.int .u8 1))], type := 299, pos := pss, after := #[], guard := none },
 { dst := some 41, op := .build 301 #[(0, .const (.int .u8 18)), (1, .tmp 40)], type := 301, pos := pss, after := #[(d_ 58)], guard := none },
 { dst := none, op := .insert 294 (.tmp 1) (.tmp 41) (.const (.int .u8 1)), type := 0, pos := pss, after := #[(d_ 0), (d_ 59)], guard := none },
 { dst := some 42, op := .build 299 #[(0, .const (.int .u8 2)), (1, .const (.int .u8 2)), (2, .const (.int .u8 2))], type := 299, pos := pss, after := #[], guard := none },
 { dst := some 43, op := .build 301 #[(0, .const (.int .u8 18)), (1, .tmp 42)], type := 301, pos := pss, after := #[(d_ 61)], guard := none },
 { dst := none, op := .insert 294 (.tmp 1) (.tmp 43) (.const (.int .u8 2)), type := 0, pos := pss, after := #[(d_ 0), (d_ 62)], guard := none },
 { dst := some 44, op := .move (.tmp 1), type := 294, pos := pss, after := #[(d_ 0), (d_ 1), (d_ 2), (d_ 3), (d_ 4), (d_ 5), (d_ 6), (d_ 7), (d_ 8), (d_ 9), (d_ 10), (d_ 11), (d_ 12), (d_ 13), (d_ 14), (d_ 15), (d_ 16), (d_ 17), (d_ 18), (d_ 19), (d_ 20), (d_ 21), (d_ 22), (d_ 23), (d_ 24), (d_ 25), (d_ 26), (d_ 27), (d_ 28), (d_ 29), (d_ 30), (d_ 31), (d_ 32), (d_ 33), (d_ 34), (d_ 35), (d_ 36), (d_ 37), (d_ 38), (d_ 39), (d_ 40), (d_ 41), (d_ 42), (d_ 43), (d_ 44), (d_ 45), (d_ 46), (d_ 47), (d_ 48), (d_ 49), (d_ 50), (d_ 51), (d_ 52), (d_ 53), (d_ 54), (d_ 55), (d_ 56), (d_ 57), (d_ 58), (d_ 59), (d_ 60), (d_ 61), (d_ 62), (d_ 63)], guard := none },
 { dst := some 0, op := .assign (.tmp 44), type := 294, pos := pss, after := #[(d_ 64), (p_ 0), (p_ 1), (p_ 2), (p_ 3), (p_ 4), (p_ 5), (p_ 6), (p_ 7), (p_ 8), (p_ 9), (p_ 10), (p_ 11), (p_ 12), (p_ 13), (p_ 14), (p_ 15), (p_ 16), (p_ 17), (p_ 18), (p_ 19), (p_ 20), (p_ 21), (p_ 22), (p_ 23), (p_ 24), (p_ 25), (p_ 26), (p_ 27), (p_ 28), (p_ 29), (p_ 30), (p_ 31), (p_ 32), (p_ 33), (p_ 34), (p_ 35), (p_ 36), (p_ 37), (p_ 38), (p_ 39), (p_ 40), (p_ 41), (p_ 42), (p_ 43), (p_ 44), (p_ 45), (p_ 46), (p_ 47), (p_ 48), (p_ 49), (p_ 50), (p_ 51), (p_ 52), (p_ 53), (p_ 54), (p_ 55), (p_ 56), (p_ 57), (p_ 58), (p_ 59), (p_ 60), (p_ 61), (p_ 62), (p_ 63), (p_ 64)], guard := none }]
abbrev t_ : Bool := true
abbrev f_ : Bool := false
abbrev u_ : Value := undef
abbrev m3_ (a b c : Int) : Value := .agg #[.int .u8 a, .int .u8 b, .int .u8 c]
abbrev m4_ (a b c d : Int) : Value := .agg #[.int .u8 a, .int .u8 b, .int .u8 c, .int .u8 d]
set_option maxRecDepth 100000 in
theorem takes_all {Q : Exit → Act → World → Prop} (hQ : ∀ c (a : Act) d v w, Q (.panic c) (a.put d v) w → Q (.panic c) a w) {w : World} (h : wpAny Tryz.prog .any tOps Q 24 #[false, true, true, false, true, true, false, true, true, false, true, true, false, true, true, false, true, true, false, true, true, false, true, true, false, true, true, false, true, true, false, true, true, false, true, true, false, true, true, false, true, true, false, true, true, false, true, true, false, true, true, false, true, true, false, true, true, false, true, true, false, true, true, false, false, false] { tmps := #[.map none, undef, .agg #[.int .u8 0, .int .u8 0, .int .u8 0], .agg #[.int .u8 1, .int .u8 0, .int .u8 0, .int .u8 0], .agg #[.int .u8 0, .int .u8 0, .int .u8 0], .agg #[.int .u8 2, .int .u8 0, .int .u8 0, .int .u8 0], .agg #[.int .u8 0, .int .u8 0, .int .u8 0], .agg #[.int .u8 3, .int .u8 0, .int .u8 0, .int .u8 0], .agg #[.int .u8 0, .int .u8 0, .int .u8 0], .agg #[.int .u8 4, .int .u8 0, .int .u8 0, .int .u8 0], .agg #[.int .u8 1, .int .u8 0, .int .u8 0], .agg #[.int .u8 5, .int .u8 1, .int .u8 0, .int .u8 0], .agg #[.int .u8 1, .int .u8 1, .int .u8 0], .agg #[.int .u8 7, .int .u8 1, .int .u8 1, .int .u8 0], .agg #[.int .u8 1, .int .u8 1, .int .u8 0], .agg #[.int .u8 8, .int .u8 1, .int .u8 1, .int .u8 0], .agg #[.int .u8 1, .int .u8 1, .int .u8 0], .agg #[.int .u8 9, .int .u8 1, .int .u8 1, .int .u8 0], .agg #[.int .u8 1, .int .u8 1, .int .u8 0], .agg #[.int .u8 10, .int .u8 1, .int .u8 1, .int .u8 0], .agg #[.int .u8 1, .int .u8 1, .int .u8 0], .agg #[.int .u8 11, .int .u8 1, .int .u8 1, .int .u8 0], .agg #[.int .u8 2, .int .u8 0, .int .u8 0], .agg #[.int .u8 6, .int .u8 2, .int .u8 0, .int .u8 0], .agg #[.int .u8 2, .int .u8 2, .int .u8 0], .agg #[.int .u8 16, .int .u8 2, .int .u8 2, .int .u8 0], .agg #[.int .u8 2, .int .u8 2, .int .u8 0], .agg #[.int .u8 17, .int .u8 2, .int .u8 2, .int .u8 0], .agg #[.int .u8 1, .int .u8 1, .int .u8 0], .agg #[.int .u8 12, .int .u8 1, .int .u8 1, .int .u8 0], .agg #[.int .u8 1, .int .u8 1, .int .u8 0], .agg #[.int .u8 13, .int .u8 1, .int .u8 1, .int .u8 0], .agg #[.int .u8 1, .int .u8 1, .int .u8 0], .agg #[.int .u8 14, .int .u8 1, .int .u8 1, .int .u8 0], .agg #[.int .u8 2, .int .u8 2, .int .u8 0], .agg #[.int .u8 14, .int .u8 2, .int .u8 2, .int .u8 0], .agg #[.int .u8 1, .int .u8 1, .int .u8 0], .agg #[.int .u8 15, .int .u8 1, .int .u8 1, .int .u8 0], .agg #[.int .u8 2, .int .u8 2, .int .u8 0], .agg #[.int .u8 15, .int .u8 2, .int .u8 2, .int .u8 0], .agg #[.int .u8 2, .int .u8 1, .int .u8 1], .agg #[.int .u8 18, .int .u8 2, .int .u8 1, .int .u8 1], .agg #[.int .u8 2, .int .u8 2, .int .u8 2], .agg #[.int .u8 18, .int .u8 2, .int .u8 2, .int .u8 2], undef], defers := [] } w) :
  wpAny Tryz.prog .any tOps Q 66 (Array.replicate 66 false) { tmps := #[.map none, undef, undef, undef, undef, undef, undef, undef, undef, undef, undef, undef, undef, undef, undef, undef, undef, undef, undef, undef, undef, undef, undef, undef, undef, undef, undef, undef, undef, undef, undef, undef, undef, undef, undef, undef, undef, undef, undef, undef, undef, undef, undef, undef, undef], defers := [] } w := by
 have hns : Region.noSelect tOps = true := by kernel_rfl
 refine wpAny_take (i := 1) (fuel := 65) (oi := { dst := some 2, op := .build 299 #[], type := 299, pos := pss, after := #[], guard := none }) (v := .agg #[.int .u8 0, .int .u8 0, .int .u8 0]) (by kernel_rfl) hns (by kernel_rfl) (by kernel_rfl) (fun c a w h => hQ c a _ _ w h) (Or.inl ⟨by kernel_rfl, fun _ => by kernel_rfl⟩) ?r1
 show wpAny Tryz.prog .any tOps Q 65 #[f_, t_, f_, f_, f_, f_, f_, f_, f_, f_, f_, f_, f_, f_, f_, f_, f_, f_, f_, f_, f_, f_, f_, f_, f_, f_, f_, f_, f_, f_, f_, f_, f_, f_, f_, f_, f_, f_, f_, f_, f_, f_, f_, f_, f_, f_, f_, f_, f_, f_, f_, f_, f_, f_, f_, f_, f_, f_, f_, f_, f_, f_, f_, f_, f_, f_] { tmps := #[.map none, u_, m3_ 0 0 0, u_, u_, u_, u_, u_, u_, u_, u_, u_, u_, u_, u_, u_, u_, u_, u_, u_, u_, u_, u_, u_, u_, u_, u_, u_, u_, u_, u_, u_, u_, u_, u_, u_, u_, u_, u_, u_, u_, u_, u_, u_, u_], defers := [] } w
 refine wpAny_take (i := 2) (fuel := 64) (oi := { dst := some 3, op := .build 301 #[(0, .const (.int .u8 1)), (1, .tmp 2)], type := 301, pos := pss, after := #[(d_ 1)], guard := none }) (v := .agg #[.int .u8 1, .int .u8 0, .int .u8 0, .int .u8 0]) (by kernel_rfl) hns (by kernel_rfl) (by kernel_rfl) (fun c a w h => hQ c a _ _ w h) (Or.inl ⟨by kernel_rfl, fun _ => by kernel_rfl⟩) ?r2
 show wpAny Tryz.prog .any tOps Q 64 #[f_, t_, t_, f_, f_, f_, f_, f_, f_, f_, f_, f_, f_, f_, f_, f_, f_, f_, f_, f_, f_, f_, f_, f_, f_, f_, f_, f_, f_, f_, f_, f_, f_, f_, f_, f_, f_, f_, f_, f_, f_, f_, f_, f_, f_, f_, f_, f_, f_, f_, f_, f_, f_, f_, f_, f_, f_, f_, f_, f_, f_, f_, f_, f_, f_, f_] { tmps := #[.map none, u_, m3_ 0 0 0, m4_ 1 0 0 0, u_, u_, u_, u_, u_, u_, u_, u_, u_, u_, u_, u_, u_, u_, u_, u_, u_, u_, u_, u_, u_, u_, u_, u_, u_, u_, u_, u_, u_, u_, u_, u_, u_, u_, u_, u_, u_, u_, u_, u_, u_], defers := [] } w
 refine wpAny_take (i := 4) (fuel := 63) (oi := { dst := some 4, op := .build 299 #[], type := 299, pos := pss, after := #[], guard := none }) (v := .agg #[.int .u8 0, .int .u8 0, .int .u8 0]) (by kernel_rfl) hns (by kernel_rfl) (by kernel_rfl) (fun c a w h => hQ c a _ _ w h) (Or.inl ⟨by kernel_rfl, fun _ => by kernel_rfl⟩) ?r4
 show wpAny Tryz.prog .any tOps Q 63 #[f_, t_, t_, f_, t_, f_, f_, f_, f_, f_, f_, f_, f_, f_, f_, f_, f_, f_, f_, f_, f_, f_, f_, f_, f_, f_, f_, f_, f_, f_, f_, f_, f_, f_, f_, f_, f_, f_, f_, f_, f_, f_, f_, f_, f_, f_, f_, f_, f_, f_, f_, f_, f_, f_, f_, f_, f_, f_, f_, f_, f_, f_, f_, f_, f_, f_] { tmps := #[.map none, u_, m3_ 0 0 0, m4_ 1 0 0 0, m3_ 0 0 0, u_, u_, u_, u_, u_, u_, u_, u_, u_, u_, u_, u_, u_, u_, u_, u_, u_, u_, u_, u_, u_, u_, u_, u_, u_, u_, u_, u_, u_, u_, u_, u_, u_, u_, u_, u_, u_, u_, u_, u_], defers := [] } w
 refine wpAny_take (i := 5) (fuel := 62) (oi := { dst := some 5, op := .build 301 #[(0, .const (.int .u8 2)), (1, .tmp 4)], type := 301, pos := pss, after := #[(d_ 4)], guard := none }) (v := .agg #[.int .u8 2, .int .u8 0, .int .u8 0, .int .u8 0]) (by kernel_rfl) hns (by kernel_rfl) (by kernel_rfl) (fun c a w h => hQ c a _ _ w h) (Or.inl ⟨by kernel_rfl, fun _ => by kernel_rfl⟩) ?r5
 show wpAny Tryz.prog .any tOps Q 62 #[f_, t_, t_, f_, t_, t_, f_, f_, f_, f_, f_, f_, f_, f_, f_, f_, f_, f_, f_, f_, f_, f_, f_, f_, f_, f_, f_, f_, f_, f_, f_, f_, f_, f_, f_, f_, f_, f_, f_, f_, f_, f_, f_, f_, f_, f_, f_, f_, f_, f_, f_, f_, f_, f_, f_, f_, f_, f_, f_, f_, f_, f_, f_, f_, f_, f_] { tmps := #[.map none, u_, m3_ 0 0 0, m4_ 1 0 0 0, m3_ 0 0 0, m4_ 2 0 0 0, u_, u_, u_, u_, u_, u_, u_, u_, u_, u_, u_, u_, u_, u_, u_, u_, u_, u_, u_, u_, u_, u_, u_, u_, u_, u_, u_, u_, u_, u_, u_, u_, u_, u_, u_, u_, u_, u_, u_], defers := [] } w
 refine wpAny_take (i := 7) (fuel := 61) (oi := { dst := some 6, op := .build 299 #[], type := 299, pos := pss, after := #[], guard := none }) (v := .agg #[.int .u8 0, .int .u8 0, .int .u8 0]) (by kernel_rfl) hns (by kernel_rfl) (by kernel_rfl) (fun c a w h => hQ c a _ _ w h) (Or.inl ⟨by kernel_rfl, fun _ => by kernel_rfl⟩) ?r7
 show wpAny Tryz.prog .any tOps Q 61 #[f_, t_, t_, f_, t_, t_, f_, t_, f_, f_, f_, f_, f_, f_, f_, f_, f_, f_, f_, f_, f_, f_, f_, f_, f_, f_, f_, f_, f_, f_, f_, f_, f_, f_, f_, f_, f_, f_, f_, f_, f_, f_, f_, f_, f_, f_, f_, f_, f_, f_, f_, f_, f_, f_, f_, f_, f_, f_, f_, f_, f_, f_, f_, f_, f_, f_] { tmps := #[.map none, u_, m3_ 0 0 0, m4_ 1 0 0 0, m3_ 0 0 0, m4_ 2 0 0 0, m3_ 0 0 0, u_, u_, u_, u_, u_, u_, u_, u_, u_, u_, u_, u_, u_, u_, u_, u_, u_, u_, u_, u_, u_, u_, u_, u_, u_, u_, u_, u_, u_, u_, u_, u_, u_, u_, u_, u_, u_, u_], defers := [] } w
 refine wpAny_take (i := 8) (fuel := 60) (oi := { dst := some 7, op := .build 301 #[(0, .const (.int .u8 3)), (1, .tmp 6)], type := 301, pos := pss, after := #[(d_ 7)], guard := none }) (v := .agg #[.int .u8 3, .int .u8 0, .int .u8 0, .int .u8 0]) (by kernel_rfl) hns (by kernel_rfl) (by kernel_rfl) (fun c a w h => hQ c a _ _ w h) (Or.inl ⟨by kernel_rfl, fun _ => by kernel_rfl⟩) ?r8
 show wpAny Tryz.prog .any tOps Q 60 #[f_, t_, t_, f_, t_, t_, f_, t_, t_, f_, f_, f_, f_, f_, f_, f_, f_, f_, f_, f_, f_, f_, f_, f_, f_, f_, f_, f_, f_, f_, f_, f_, f_, f_, f_, f_, f_, f_, f_, f_, f_, f_, f_, f_, f_, f_, f_, f_, f_, f_, f_, f_, f_, f_, f_, f_, f_, f_, f_, f_, f_, f_, f_, f_, f_, f_] { tmps := #[.map none, u_, m3_ 0 0 0, m4_ 1 0 0 0, m3_ 0 0 0, m4_ 2 0 0 0, m3_ 0 0 0, m4_ 3 0 0 0, u_, u_, u_, u_, u_, u_, u_, u_, u_, u_, u_, u_, u_, u_, u_, u_, u_, u_, u_, u_, u_, u_, u_, u_, u_, u_, u_, u_, u_, u_, u_, u_, u_, u_, u_, u_, u_], defers := [] } w
 refine wpAny_take (i := 10) (fuel := 59) (oi := { dst := some 8, op := .build 299 #[], type := 299, pos := pss, after := #[], guard := none }) (v := .agg #[.int .u8 0, .int .u8 0, .int .u8 0]) (by kernel_rfl) hns (by kernel_rfl) (by kernel_rfl) (fun c a w h => hQ c a _ _ w h) (Or.inl ⟨by kernel_rfl, fun _ => by kernel_rfl⟩) ?r10
 show wpAny Tryz.prog .any tOps Q 59 #[f_, t_, t_, f_, t_, t_, f_, t_, t_, f_, t_, f_, f_, f_, f_, f_, f_, f_, f_, f_, f_, f_, f_, f_, f_, f_, f_, f_, f_, f_, f_, f_, f_, f_, f_, f_, f_, f_, f_, f_, f_, f_, f_, f_, f_, f_, f_, f_, f_, f_, f_, f_, f_, f_, f_, f_, f_, f_, f_, f_, f_, f_, f_, f_, f_, f_] { tmps := #[.map none, u_, m3_ 0 0 0, m4_ 1 0 0 0, m3_ 0 0 0, m4_ 2 0 0 0, m3_ 0 0 0, m4_ 3 0 0 0, m3_ 0 0 0, u_, u_, u_, u_, u_, u_, u_, u_, u_, u_, u_, u_, u_, u_, u_, u_, u_, u_, u_, u_, u_, u_, u_, u_, u_, u_, u_, u_, u_, u_, u_, u_, u_, u_, u_, u_], defers := [] } w
 refine wpAny_take (i := 11) (fuel := 58) (oi := { dst := some 9, op := .build 301 #[(0, .const (.int .u8 4)), (1, .tmp 8)], type := 301, pos := pss, after := #[(d_ 10)], guard := none }) (v := .agg #[.int .u8 4, .int .u8 0, .int .u8 0, .int .u8 0]) (by kernel_rfl) hns (by kernel_rfl) (by kernel_rfl) (fun c a w h => hQ c a _ _ w h) (Or.inl ⟨by kernel_rfl, fun _ => by kernel_rfl⟩) ?r11
 show wpAny Tryz.prog .any tOps Q 58 #[f_, t_, t_, f_, t_, t_, f_, t_, t_, f_, t_, t_, f_, f_, f_, f_, f_, f_, f_, f_, f_, f_, f_, f_, f_, f_, f_, f_, f_, f_, f_, f_, f_, f_, f_, f_, f_, f_, f_, f_, f_, f_, f_, f_, f_, f_, f_, f_, f_, f_, f_, f_, f_, f_, f_, f_, f_, f_, f_, f_, f_, f_, f_, f_, f_, f_] { tmps := #[.map none, u_, m3_ 0 0 0, m4_ 1 0 0 0, m3_ 0 0 0, m4_ 2 0 0 0, m3_ 0 0 0, m4_ 3 0 0 0, m3_ 0 0 0, m4_ 4 0 0 0, u_, u_, u_, u_, u_, u_, u_, u_, u_, u_, u_, u_, u_, u_, u_, u_, u_, u_, u_, u_, u_, u_, u_, u_, u_, u_, u_, u_, u_, u_, u_, u_, u_, u_, u_], defers := [] } w
 refine wpAny_take (i := 13) (fuel := 57) (oi := { dst := some 10, op := .build 299 #[(0, .const (.int .u8 1))], type := 299, pos := pss, after := #[], guard := none }) (v := .agg #[.int .u8 1, .int .u8 0, .int .u8 0]) (by kernel_rfl) hns (by kernel_rfl) (by kernel_rfl) (fun c a w h => hQ c a _ _ w h) (Or.inl ⟨by kernel_rfl, fun _ => by kernel_rfl⟩) ?r13
 show wpAny Tryz.prog .any tOps Q 57 #[f_, t_, t_, f_, t_, t_, f_, t_, t_, f_, t_, t_, f_, t_, f_, f_, f_, f_, f_, f_, f_, f_, f_, f_, f_, f_, f_, f_, f_, f_, f_, f_, f_, f_, f_, f_, f_, f_, f_, f_, f_, f_, f_, f_, f_, f_, f_, f_, f_, f_, f_, f_, f_, f_, f_, f_, f_, f_, f_, f_, f_, f_, f_, f_, f_, f_] { tmps := #[.map none, u_, m3_ 0 0 0, m4_ 1 0 0 0, m3_ 0 0 0, m4_ 2 0 0 0, m3_ 0 0 0, m4_ 3 0 0 0, m3_ 0 0 0, m4_ 4 0 0 0, m3_ 1 0 0, u_, u_, u_, u_, u_, u_, u_, u_, u_, u_, u_, u_, u_, u_, u_, u_, u_, u_, u_, u_, u_, u_, u_, u_, u_, u_, u_, u_, u_, u_, u_, u_, u_, u_], defers := [] } w
 refine wpAny_take (i := 14) (fuel := 56) (oi := { dst := some 11, op := .build 301 #[(0, .const (.int .u8 5)), (1, .tmp 10)], type := 301, pos := pss, after := #[(d_ 13)], guard := none }) (v := .agg #[.int .u8 5, .int .u8 1, .int .u8 0, .int .u8 0]) (by kernel_rfl) hns (by kernel_rfl) (by kernel_rfl) (fun c a w h => hQ c a _ _ w h) (Or.inl ⟨by kernel_rfl, fun _ => by kernel_rfl⟩) ?r14
 show wpAny Tryz.prog .any tOps Q 56 #[f_, t_, t_, f_, t_, t_, f_, t_, t_, f_, t_, t_, f_, t_, t_, f_, f_, f_, f_, f_, f_, f_, f_, f_, f_, f_, f_, f_, f_, f_, f_, f_, f_, f_, f_, f_, f_, f_, f_, f_, f_, f_, f_, f_, f_, f_, f_, f_, f_, f_, f_, f_, f_, f_, f_, f_, f_, f_, f_, f_, f_, f_, f_, f_, f_, f_] { tmps := #[.map none, u_, m3_ 0 0 0, m4_ 1 0 0 0, m3_ 0 0 0, m4_ 2 0 0 0, m3_ 0 0 0, m4_ 3 0 0 0, m3_ 0 0 0, m4_ 4 0 0 0, m3_ 1 0 0, m4_ 5 1 0 0, u_, u_, u_, u_, u_, u_, u_, u_, u_, u_, u_, u_, u_, u_, u_, u_, u_, u_, u_, u_, u_, u_, u_, u_, u_, u_, u_, u_, u_, u_, u_, u_, u_], defers := [] } w
 refine wpAny_take (i := 16) (fuel := 55) (oi := { dst := some 12, op := .build 299 #[(0, .const (.int .u8 1)), (1, .const (.int .u8 1))], type := 299, pos := pss, after := #[], guard := none }) (v := .agg #[.int .u8 1, .int .u8 1, .int .u8 0]) (by kernel_rfl) hns (by kernel_rfl) (by kernel_rfl) (fun c a w h => hQ c a _ _ w h) (Or.inl ⟨by kernel_rfl, fun _ => by kernel_rfl⟩) ?r16
 show wpAny Tryz.prog .any tOps Q 55 #[f_, t_, t_, f_, t_, t_, f_, t_, t_, f_, t_, t_, f_, t_, t_, f_, t_, f_, f_, f_, f_, f_, f_, f_, f_, f_, f_, f_, f_, f_, f_, f_, f_, f_, f_, f_, f_, f_, f_, f_, f_, f_, f_, f_, f_, f_, f_, f_, f_, f_, f_, f_, f_, f_, f_, f_, f_, f_, f_, f_, f_, f_, f_, f_, f_, f_] { tmps := #[.map none, u_, m3_ 0 0 0, m4_ 1 0 0 0, m3_ 0 0 0, m4_ 2 0 0 0, m3_ 0 0 0, m4_ 3 0 0 0, m3_ 0 0 0, m4_ 4 0 0 0, m3_ 1 0 0, m4_ 5 1 0 0, m3_ 1 1 0, u_, u_, u_, u_, u_, u_, u_, u_, u_, u_, u_, u_, u_, u_, u_, u_, u_, u_, u_, u_, u_, u_, u_, u_, u_, u_, u_, u_, u_, u_, u_, u_], defers := [] } w
 refine wpAny_take (i := 17) (fuel := 54) (oi := { dst := some 13, op := .build 301 #[(0, .const (.int .u8 7)), (1, .tmp 12)], type := 301, pos := pss, after := #[(d_ 16)], guard := none }) (v := .agg #[.int .u8 7, .int .u8 1, .int .u8 1, .int .u8 0]) (by kernel_rfl) hns (by kernel_rfl) (by kernel_rfl) (fun c a w h => hQ c a _ _ w h) (Or.inl ⟨by kernel_rfl, fun _ => by kernel_rfl⟩) ?r17
 show wpAny Tryz.prog .any tOps Q 54 #[f_, t_, t_, f_, t_, t_, f_, t_, t_, f_, t_, t_, f_, t_, t_, f_, t_, t_, f_, f_, f_, f_, f_, f_, f_, f_, f_, f_, f_, f_, f_, f_, f_, f_, f_, f_, f_, f_, f_, f_, f_, f_, f_, f_, f_, f_, f_, f_, f_, f_, f_, f_, f_, f_, f_, f_, f_, f_, f_, f_, f_, f_, f_, f_, f_, f_] { tmps := #[.map none, u_, m3_ 0 0 0, m4_ 1 0 0 0, m3_ 0 0 0, m4_ 2 0 0 0, m3_ 0 0 0, m4_ 3 0 0 0, m3_ 0 0 0, m4_ 4 0 0 0, m3_ 1 0 0, m4_ 5 1 0 0, m3_ 1 1 0, m4_ 7 1 1 0, u_, u_, u_, u_, u_, u_, u_, u_, u_, u_, u_, u_, u_, u_, u_, u_, u_, u_, u_, u_, u_, u_, u_, u_, u_, u_, u_, u_, u_, u_, u_], defers := [] } w
 refine wpAny_take (i := 19) (fuel := 53) (oi := { dst := some 14, op := .build 299 #[(0, .const (.int .u8 1)), (1, .const (.int .u8 1))], type := 299, pos := pss, after := #[], guard := none }) (v := .agg #[.int .u8 1, .int .u8 1, .int .u8 0]) (by kernel_rfl) hns (by kernel_rfl) (by kernel_rfl) (fun c a w h => hQ c a _ _ w h) (Or.inl ⟨by kernel_rfl, fun _ => by kernel_rfl⟩) ?r19
 show wpAny Tryz.prog .any tOps Q 53 #[f_, t_, t_, f_, t_, t_, f_, t_, t_, f_, t_, t_, f_, t_, t_, f_, t_, t_, f_, t_, f_, f_, f_, f_, f_, f_, f_, f_, f_, f_, f_, f_, f_, f_, f_, f_, f_, f_, f_, f_, f_, f_, f_, f_, f_, f_, f_, f_, f_, f_, f_, f_, f_, f_, f_, f_, f_, f_, f_, f_, f_, f_, f_, f_, f_, f_] { tmps := #[.map none, u_, m3_ 0 0 0, m4_ 1 0 0 0, m3_ 0 0 0, m4_ 2 0 0 0, m3_ 0 0 0, m4_ 3 0 0 0, m3_ 0 0 0, m4_ 4 0 0 0, m3_ 1 0 0, m4_ 5 1 0 0, m3_ 1 1 0, m4_ 7 1 1 0, m3_ 1 1 0, u_, u_, u_, u_, u_, u_, u_, u_, u_, u_, u_, u_, u_, u_, u_, u_, u_, u_, u_, u_, u_, u_, u_, u_, u_, u_, u_, u_, u_, u_], defers := [] } w
 refine wpAny_take (i := 20) (fuel := 52) (oi := { dst := some 15, op := .build 301 #[(0, .const (.int .u8 8)), (1, .tmp 14)], type := 301, pos := pss, after := #[(d_ 19)], guard := none }) (v := .agg #[.int .u8 8, .int .u8 1, .int .u8 1, .int .u8 0]) (by kernel_rfl) hns (by kernel_rfl) (by kernel_rfl) (fun c a w h => hQ c a _ _ w h) (Or.inl ⟨by kernel_rfl, fun _ => by kernel_rfl⟩) ?r20
 show wpAny Tryz.prog .any tOps Q 52 #[f_, t_, t_, f_, t_, t_, f_, t_, t_, f_, t_, t_, f_, t_, t_, f_, t_, t_, f_, t_, t_, f_, f_, f_, f_, f_, f_, f_, f_, f_, f_, f_, f_, f_, f_, f_, f_, f_, f_, f_, f_, f_, f_, f_, f_, f_, f_, f_, f_, f_, f_, f_, f_, f_, f_, f_, f_, f_, f_, f_, f_, f_, f_, f_, f_, f_] { tmps := #[.map none, u_, m3_ 0 0 0, m4_ 1 0 0 0, m3_ 0 0 0, m4_ 2 0 0 0, m3_ 0 0 0, m4_ 3 0 0 0, m3_ 0 0 0, m4_ 4 0 0 0, m3_ 1 0 0, m4_ 5 1 0 0, m3_ 1 1 0, m4_ 7 1 1 0, m3_ 1 1 0, m4_ 8 1 1 0, u_, u_, u_, u_, u_, u_, u_, u_, u_, u_, u_, u_, u_, u_, u_, u_, u_, u_, u_, u_, u_, u_, u_, u_, u_, u_, u_, u_, u_], defers := [] } w
 refine wpAny_take (i := 22) (fuel := 51) (oi := { dst := some 16, op := .build 299 #[(0, .const (.int .u8 1)), (1, .const (.int .u8 1))], type := 299, pos := pss, after := #[], guard := none }) (v := .agg #[.int .u8 1, .int .u8 1, .int .u8 0]) (by kernel_rfl) hns (by kernel_rfl) (by kernel_rfl) (fun c a w h => hQ c a _ _ w h) (Or.inl ⟨by kernel_rfl, fun _ => by kernel_rfl⟩) ?r22
 show wpAny Tryz.prog .any tOps Q 51 #[f_, t_, t_, f_, t_, t_, f_, t_, t_, f_, t_, t_, f_, t_, t_, f_, t_, t_, f_, t_, t_, f_, t_, f_, f_, f_, f_, f_, f_, f_, f_, f_, f_, f_, f_, f_, f_, f_, f_, f_, f_, f_, f_, f_, f_, f_, f_, f_, f_, f_, f_, f_, f_, f_, f_, f_, f_, f_, f_, f_, f_, f_, f_, f_, f_, f_] { tmps := #[.map none, u_, m3_ 0 0 0, m4_ 1 0 0 0, m3_ 0 0 0, m4_ 2 0 0 0, m3_ 0 0 0, m4_ 3 0 0 0, m3_ 0 0 0, m4_ 4 0 0 0, m3_ 1 0 0, m4_ 5 1 0 0, m3_ 1 1 0, m4_ 7 1 1 0, m3_ 1 1 0, m4_ 8 1 1 0, m3_ 1 1 0, u_, u_, u_, u_, u_, u_, u_, u_, u_, u_, u_, u_, u_, u_, u_, u_, u_, u_, u_, u_, u_, u_, u_, u_, u_, u_, u_, u_], defers := [] } w
 refine wpAny_take (i := 23) (fuel := 50) (oi := { dst := some 17, op := .build 301 #[(0, .const (.int .u8 9)), (1, .tmp 16)], type := 301, pos := pss, after := #[(d_ 22)], guard := none }) (v := .agg #[.int .u8 9, .int .u8 1, .int .u8 1, .int .u8 0]) (by kernel_rfl) hns (by kernel_rfl) (by kernel_rfl) (fun c a w h => hQ c a _ _ w h) (Or.inl ⟨by kernel_rfl, fun _ => by kernel_rfl⟩) ?r23
 show wpAny Tryz.prog .any tOps Q 50 #[f_, t_, t_, f_, t_, t_, f_, t_, t_, f_, t_, t_, f_, t_, t_, f_, t_, t_, f_, t_, t_, f_, t_, t_, f_, f_, f_, f_, f_, f_, f_, f_, f_, f_, f_, f_, f_, f_, f_, f_, f_, f_, f_, f_, f_, f_, f_, f_, f_, f_, f_, f_, f_, f_, f_, f_, f_, f_, f_, f_, f_, f_, f_, f_, f_, f_] { tmps := #[.map none, u_, m3_ 0 0 0, m4_ 1 0 0 0, m3_ 0 0 0, m4_ 2 0 0 0, m3_ 0 0 0, m4_ 3 0 0 0, m3_ 0 0 0, m4_ 4 0 0 0, m3_ 1 0 0, m4_ 5 1 0 0, m3_ 1 1 0, m4_ 7 1 1 0, m3_ 1 1 0, m4_ 8 1 1 0, m3_ 1 1 0, m4_ 9 1 1 0, u_, u_, u_, u_, u_, u_, u_, u_, u_, u_, u_, u_, u_, u_, u_, u_, u_, u_, u_, u_, u_, u_, u_, u_, u_, u_, u_], defers := [] } w
 refine wpAny_take (i := 25) (fuel := 49) (oi := { dst := some 18, op := .build 299 #[(0, .const (.int .u8 1)), (1, .const (.int .u8 1))], type := 299, pos := pss, after := #[], guard := none }) (v := .agg #[.int .u8 1, .int .u8 1, .int .u8 0]) (by kernel_rfl) hns (by kernel_rfl) (by kernel_rfl) (fun c a w h => hQ c a _ _ w h) (Or.inl ⟨by kernel_rfl, fun _ => by kernel_rfl⟩) ?r25
 show wpAny Tryz.prog .any tOps Q 49 #[f_, t_, t_, f_, t_, t_, f_, t_, t_, f_, t_, t_, f_, t_, t_, f_, t_, t_, f_, t_, t_, f_, t_, t_, f_, t_, f_, f_, f_, f_, f_, f_, f_, f_, f_, f_, f_, f_, f_, f_, f_, f_, f_, f_, f_, f_, f_, f_, f_, f_, f_, f_, f_, f_, f_, f_, f_, f_, f_, f_, f_, f_, f_, f_, f_, f_] { tmps := #[.map none, u_, m3_ 0 0 0, m4_ 1 0 0 0, m3_ 0 0 0, m4_ 2 0 0 0, m3_ 0 0 0, m4_ 3 0 0 0, m3_ 0 0 0, m4_ 4 0 0 0, m3_ 1 0 0, m4_ 5 1 0 0, m3_ 1 1 0, m4_ 7 1 1 0, m3_ 1 1 0, m4_ 8 1 1 0, m3_ 1 1 0, m4_ 9 1 1 0, m3_ 1 1 0, u_, u_, u_, u_, u_, u_, u_, u_, u_, u_, u_, u_, u_, u_, u_, u_, u_, u_, u_, u_, u_, u_, u_, u_, u_, u_], defers := [] } w
 refine wpAny_take (i := 26) (fuel := 48) (oi := { dst := some 19, op := .build 301 #[(0, .const (.int .u8 10)), (1, .tmp 18)], type := 301, pos := pss, after := #[(d_ 25)], guard := none }) (v := .agg #[.int .u8 10, .int .u8 1, .int .u8 1, .int .u8 0]) (by kernel_rfl) hns (by kernel_rfl) (by kernel_rfl) (fun c a w h => hQ c a _ _ w h) (Or.inl ⟨by kernel_rfl, fun _ => by kernel_rfl⟩) ?r26
 show wpAny Tryz.prog .any tOps Q 48 #[f_, t_, t_, f_, t_, t_, f_, t_, t_, f_, t_, t_, f_, t_, t_, f_, t_, t_, f_, t_, t_, f_, t_, t_, f_, t_, t_, f_, f_, f_, f_, f_, f_, f_, f_, f_, f_, f_, f_, f_, f_, f_, f_, f_, f_, f_, f_, f_, f_, f_, f_, f_, f_, f_, f_, f_, f_, f_, f_, f_, f_, f_, f_, f_, f_, f_] { tmps := #[.map none, u_, m3_ 0 0 0, m4_ 1 0 0 0, m3_ 0 0 0, m4_ 2 0 0 0, m3_ 0 0 0, m4_ 3 0 0 0, m3_ 0 0 0, m4_ 4 0 0 0, m3_ 1 0 0, m4_ 5 1 0 0, m3_ 1 1 0, m4_ 7 1 1 0, m3_ 1 1 0, m4_ 8 1 1 0, m3_ 1 1 0, m4_ 9 1 1 0, m3_ 1 1 0, m4_ 10 1 1 0, u_, u_, u_, u_, u_, u_, u_, u_, u_, u_, u_, u_, u_, u_, u_, u_, u_, u_, u_, u_, u_, u_, u_, u_, u_], defers := [] } w
 refine wpAny_take (i := 28) (fuel := 47) (oi := { dst := some 20, op := .build 299 #[(0, .const (.int .u8 1)), (1, .const (.int .u8 1))], type := 299, pos := pss, after := #[], guard := none }) (v := .agg #[.int .u8 1, .int .u8 1, .int .u8 0]) (by kernel_rfl) hns (by kernel_rfl) (by kernel_rfl) (fun c a w h => hQ c a _ _ w h) (Or.inl ⟨by kernel_rfl, fun _ => by kernel_rfl⟩) ?r28
 show wpAny Tryz.prog .any tOps Q 47 #[f_, t_, t_, f_, t_, t_, f_, t_, t_, f_, t_, t_, f_, t_, t_, f_, t_, t_, f_, t_, t_, f_, t_, t_, f_, t_, t_, f_, t_, f_, f_, f_, f_, f_, f_, f_, f_, f_, f_, f_, f_, f_, f_, f_, f_, f_, f_, f_, f_, f_, f_, f_, f_, f_, f_, f_, f_, f_, f_, f_, f_, f_, f_, f_, f_, f_] { tmps := #[.map none, u_, m3_ 0 0 0, m4_ 1 0 0 0, m3_ 0 0 0, m4_ 2 0 0 0, m3_ 0 0 0, m4_ 3 0 0 0, m3_ 0 0 0, m4_ 4 0 0 0, m3_ 1 0 0, m4_ 5 1 0 0, m3_ 1 1 0, m4_ 7 1 1 0, m3_ 1 1 0, m4_ 8 1 1 0, m3_ 1 1 0, m4_ 9 1 1 0, m3_ 1 1 0, m4_ 10 1 1 0, m3_ 1 1 0, u_, u_, u_, u_, u_, u_, u_, u_, u_, u_, u_, u_, u_, u_, u_, u_, u_, u_, u_, u_, u_, u_, u_, u_], defers := [] } w
 refine wpAny_take (i := 29) (fuel := 46) (oi := { dst := some 21, op := .build 301 #[(0, .const (.int .u8 11)), (1, .tmp 20)], type := 301, pos := pss, after := #[(d_ 28)], guard := none }) (v := .agg #[.int .u8 11, .int .u8 1, .int .u8 1, .int .u8 0]) (by kernel_rfl) hns (by kernel_rfl) (by kernel_rfl) (fun c a w h => hQ c a _ _ w h) (Or.inl ⟨by kernel_rfl, fun _ => by kernel_rfl⟩) ?r29
 show wpAny Tryz.prog .any tOps Q 46 #[f_, t_, t_, f_, t_, t_, f_, t_, t_, f_, t_, t_, f_, t_, t_, f_, t_, t_, f_, t_, t_, f_, t_, t_, f_, t_, t_, f_, t_, t_, f_, f_, f_, f_, f_, f_, f_, f_, f_, f_, f_, f_, f_, f_, f_, f_, f_, f_, f_, f_, f_, f_, f_, f_, f_, f_, f_, f_, f_, f_, f_, f_, f_, f_, f_, f_] { tmps := #[.map none, u_, m3_ 0 0 0, m4_ 1 0 0 0, m3_ 0 0 0, m4_ 2 0 0 0, m3_ 0 0 0, m4_ 3 0 0 0, m3_ 0 0 0, m4_ 4 0 0 0, m3_ 1 0 0, m4_ 5 1 0 0, m3_ 1 1 0, m4_ 7 1 1 0, m3_ 1 1 0, m4_ 8 1 1 0, m3_ 1 1 0, m4_ 9 1 1 0, m3_ 1 1 0, m4_ 10 1 1 0, m3_ 1 1 0, m4_ 11 1 1 0, u_, u_, u_, u_, u_, u_, u_, u_, u_, u_, u_, u_, u_, u_, u_, u_, u_, u_, u_, u_, u_, u_, u_], defers := [] } w
 refine wpAny_take (i := 31) (fuel := 45) (oi := { dst := some 22, op := .build 299 #[(0, .const (.int .u8 2))], type := 299, pos := pss, after := #[], guard := none }) (v := .agg #[.int .u8 2, .int .u8 0, .int .u8 0]) (by kernel_rfl) hns (by kernel_rfl) (by kernel_rfl) (fun c a w h => hQ c a _ _ w h) (Or.inl ⟨by kernel_rfl, fun _ => by kernel_rfl⟩) ?r31
 show wpAny Tryz.prog .any tOps Q 45 #[f_, t_, t_, f_, t_, t_, f_, t_, t_, f_, t_, t_, f_, t_, t_, f_, t_, t_, f_, t_, t_, f_, t_, t_, f_, t_, t_, f_, t_, t_, f_, t_, f_, f_, f_, f_, f_, f_, f_, f_, f_, f_, f_, f_, f_, f_, f_, f_, f_, f_, f_, f_, f_, f_, f_, f_, f_, f_, f_, f_, f_, f_, f_, f_, f_, f_] { tmps := #[.map none, u_, m3_ 0 0 0, m4_ 1 0 0 0, m3_ 0 0 0, m4_ 2 0 0 0, m3_ 0 0 0, m4_ 3 0 0 0, m3_ 0 0 0, m4_ 4 0 0 0, m3_ 1 0 0, m4_ 5 1 0 0, m3_ 1 1 0, m4_ 7 1 1 0, m3_ 1 1 0, m4_ 8 1 1 0, m3_ 1 1 0, m4_ 9 1 1 0, m3_ 1 1 0, m4_ 10 1 1 0, m3_ 1 1 0, m4_ 11 1 1 0, m3_ 2 0 0, u_, u_, u_, u_, u_, u_, u_, u_, u_, u_, u_, u_, u_, u_, u_, u_, u_, u_, u_, u_, u_, u_], defers := [] } w
 refine wpAny_take (i := 32) (fuel := 44) (oi := { dst := some 23, op := .build 301 #[(0, .const (.int .u8 6)), (1, .tmp 22)], type := 301, pos := pss, after := #[(d_ 31)], guard := none }) (v := .agg #[.int .u8 6, .int .u8 2, .int .u8 0, .int .u8 0]) (by kernel_rfl) hns (by kernel_rfl) (by kernel_rfl) (fun c a w h => hQ c a _ _ w h) (Or.inl ⟨by kernel_rfl, fun _ => by kernel_rfl⟩) ?r32
 show wpAny Tryz.prog .any tOps Q 44 #[f_, t_, t_, f_, t_, t_, f_, t_, t_, f_, t_, t_, f_, t_, t_, f_, t_, t_, f_, t_, t_, f_, t_, t_, f_, t_, t_, f_, t_, t_, f_, t_, t_, f_, f_, f_, f_, f_, f_, f_, f_, f_, f_, f_, f_, f_, f_, f_, f_, f_, f_, f_, f_, f_, f_, f_, f_, f_, f_, f_, f_, f_, f_, f_, f_, f_] { tmps := #[.map none, u_, m3_ 0 0 0, m4_ 1 0 0 0, m3_ 0 0 0, m4_ 2 0 0 0, m3_ 0 0 0, m4_ 3 0 0 0, m3_ 0 0 0, m4_ 4 0 0 0, m3_ 1 0 0, m4_ 5 1 0 0, m3_ 1 1 0, m4_ 7 1 1 0, m3_ 1 1 0, m4_ 8 1 1 0, m3_ 1 1 0, m4_ 9 1 1 0, m3_ 1 1 0, m4_ 10 1 1 0, m3_ 1 1 0, m4_ 11 1 1 0, m3_ 2 0 0, m4_ 6 2 0 0, u_, u_, u_, u_, u_, u_, u_, u_, u_, u_, u_, u_, u_, u_, u_, u_, u_, u_, u_, u_, u_], defers := [] } w
 refine wpAny_take (i := 34) (fuel := 43) (oi := { dst := some 24, op := .build 299 #[(0, .const (.int .u8 2)), (1, .const (.int .u8 2))], type := 299, pos := pss, after := #[], guard := none }) (v := .agg #[.int .u8 2, .int .u8 2, .int .u8 0]) (by kernel_rfl) hns (by kernel_rfl) (by kernel_rfl) (fun c a w h => hQ c a _ _ w h) (Or.inl ⟨by kernel_rfl, fun _ => by kernel_rfl⟩) ?r34
 show wpAny Tryz.prog .any tOps Q 43 #[f_, t_, t_, f_, t_, t_, f_, t_, t_, f_, t_, t_, f_, t_, t_, f_, t_, t_, f_, t_, t_, f_, t_, t_, f_, t_, t_, f_, t_, t_, f_, t_, t_, f_, t_, f_, f_, f_, f_, f_, f_, f_, f_, f_, f_, f_, f_, f_, f_, f_, f_, f_, f_, f_, f_, f_, f_, f_, f_, f_, f_, f_, f_, f_, f_, f_] { tmps := #[.map none, u_, m3_ 0 0 0, m4_ 1 0 0 0, m3_ 0 0 0, m4_ 2 0 0 0, m3_ 0 0 0, m4_ 3 0 0 0, m3_ 0 0 0, m4_ 4 0 0 0, m3_ 1 0 0, m4_ 5 1 0 0, m3_ 1 1 0, m4_ 7 1 1 0, m3_ 1 1 0, m4_ 8 1 1 0, m3_ 1 1 0, m4_ 9 1 1 0, m3_ 1 1 0, m4_ 10 1 1 0, m3_ 1 1 0, m4_ 11 1 1 0, m3_ 2 0 0, m4_ 6 2 0 0, m3_ 2 2 0, u_, u_, u_, u_, u_, u_, u_, u_, u_, u_, u_, u_, u_, u_, u_, u_, u_, u_, u_, u_], defers := [] } w
 refine wpAny_take (i := 35) (fuel := 42) (oi := { dst := some 25, op := .build 301 #[(0, .const (.int .u8 16)), (1, .tmp 24)], type := 301, pos := pss, after := #[(d_ 34)], guard := none }) (v := .agg #[.int .u8 16, .int .u8 2, .int .u8 2, .int .u8 0]) (by kernel_rfl) hns (by kernel_rfl) (by kernel_rfl) (fun c a w h => hQ c a _ _ w h) (Or.inl ⟨by kernel_rfl, fun _ => by kernel_rfl⟩) ?r35
 show wpAny Tryz.prog .any tOps Q 42 #[f_, t_, t_, f_, t_, t_, f_, t_, t_, f_, t_, t_, f_, t_, t_, f_, t_, t_, f_, t_, t_, f_, t_, t_, f_, t_, t_, f_, t_, t_, f_, t_, t_, f_, t_, t_, f_, f_, f_, f_, f_, f_, f_, f_, f_, f_, f_, f_, f_, f_, f_, f_, f_, f_, f_, f_, f_, f_, f_, f_, f_, f_, f_, f_, f_, f_] { tmps := #[.map none, u_, m3_ 0 0 0, m4_ 1 0 0 0, m3_ 0 0 0, m4_ 2 0 0 0, m3_ 0 0 0, m4_ 3 0 0 0, m3_ 0 0 0, m4_ 4 0 0 0, m3_ 1 0 0, m4_ 5 1 0 0, m3_ 1 1 0, m4_ 7 1 1 0, m3_ 1 1 0, m4_ 8 1 1 0, m3_ 1 1 0, m4_ 9 1 1 0, m3_ 1 1 0, m4_ 10 1 1 0, m3_ 1 1 0, m4_ 11 1 1 0, m3_ 2 0 0, m4_ 6 2 0 0, m3_ 2 2 0, m4_ 16 2 2 0, u_, u_, u_, u_, u_, u_, u_, u_, u_, u_, u_, u_, u_, u_, u_, u_, u_, u_, u_], defers := [] } w
 refine wpAny_take (i := 37) (fuel := 41) (oi := { dst := some 26, op := .build 299 #[(0, .const (.int .u8 2)), (1, .const (.int .u8 2))], type := 299, pos := pss, after := #[], guard := none }) (v := .agg #[.int .u8 2, .int .u8 2, .int .u8 0]) (by kernel_rfl) hns (by kernel_rfl) (by kernel_rfl) (fun c a w h => hQ c a _ _ w h) (Or.inl ⟨by kernel_rfl, fun _ => by kernel_rfl⟩) ?r37
 show wpAny Tryz.prog .any tOps Q 41 #[f_, t_, t_, f_, t_, t_, f_, t_, t_, f_, t_, t_, f_, t_, t_, f_, t_, t_, f_, t_, t_, f_, t_, t_, f_, t_, t_, f_, t_, t_, f_, t_, t_, f_, t_, t_, f_, t_, f_, f_, f_, f_, f_, f_, f_, f_, f_, f_, f_, f_, f_, f_, f_, f_, f_, f_, f_, f_, f_, f_, f_, f_, f_, f_, f_, f_] { tmps := #[.map none, u_, m3_ 0 0 0, m4_ 1 0 0 0, m3_ 0 0 0, m4_ 2 0 0 0, m3_ 0 0 0, m4_ 3 0 0 0, m3_ 0 0 0, m4_ 4 0 0 0, m3_ 1 0 0, m4_ 5 1 0 0, m3_ 1 1 0, m4_ 7 1 1 0, m3_ 1 1 0, m4_ 8 1 1 0, m3_ 1 1 0, m4_ 9 1 1 0, m3_ 1 1 0, m4_ 10 1 1 0, m3_ 1 1 0, m4_ 11 1 1 0, m3_ 2 0 0, m4_ 6 2 0 0, m3_ 2 2 0, m4_ 16 2 2 0, m3_ 2 2 0, u_, u_, u_, u_, u_, u_, u_, u_, u_, u_, u_, u_, u_, u_, u_, u_, u_, u_], defers := [] } w
 refine wpAny_take (i := 38) (fuel := 40) (oi := { dst := some 27, op := .build 301 #[(0, .const (.int .u8 17)), (1, .tmp 26)], type := 301, pos := pss, after := #[(d_ 37)], guard := none }) (v := .agg #[.int .u8 17, .int .u8 2, .int .u8 2, .int .u8 0]) (by kernel_rfl) hns (by kernel_rfl) (by kernel_rfl) (fun c a w h => hQ c a _ _ w h) (Or.inl ⟨by kernel_rfl, fun _ => by kernel_rfl⟩) ?r38
 show wpAny Tryz.prog .any tOps Q 40 #[f_, t_, t_, f_, t_, t_, f_, t_, t_, f_, t_, t_, f_, t_, t_, f_, t_, t_, f_, t_, t_, f_, t_, t_, f_, t_, t_, f_, t_, t_, f_, t_, t_, f_, t_, t_, f_, t_, t_, f_, f_, f_, f_, f_, f_, f_, f_, f_, f_, f_, f_, f_, f_, f_, f_, f_, f_, f_, f_, f_, f_, f_, f_, f_, f_, f_] { tmps := #[.map none, u_, m3_ 0 0 0, m4_ 1 0 0 0, m3_ 0 0 0, m4_ 2 0 0 0, m3_ 0 0 0, m4_ 3 0 0 0, m3_ 0 0 0, m4_ 4 0 0 0, m3_ 1 0 0, m4_ 5 1 0 0, m3_ 1 1 0, m4_ 7 1 1 0, m3_ 1 1 0, m4_ 8 1 1 0, m3_ 1 1 0, m4_ 9 1 1 0, m3_ 1 1 0, m4_ 10 1 1 0, m3_ 1 1 0, m4_ 11 1 1 0, m3_ 2 0 0, m4_ 6 2 0 0, m3_ 2 2 0, m4_ 16 2 2 0, m3_ 2 2 0, m4_ 17 2 2 0, u_, u_, u_, u_, u_, u_, u_, u_, u_, u_, u_, u_, u_, u_, u_, u_, u_], defers := [] } w
 refine wpAny_take (i := 40) (fuel := 39) (oi := { dst := some 28, op := .build 299 #[(0, .const (.int .u8 1)), (1, .const (.int .u8 1))], type := 299, pos := pss, after := #[], guard := none }) (v := .agg #[.int .u8 1, .int .u8 1, .int .u8 0]) (by kernel_rfl) hns (by kernel_rfl) (by kernel_rfl) (fun c a w h => hQ c a _ _ w h) (Or.inl ⟨by kernel_rfl, fun _ => by kernel_rfl⟩) ?r40
 show wpAny Tryz.prog .any tOps Q 39 #[f_, t_, t_, f_, t_, t_, f_, t_, t_, f_, t_, t_, f_, t_, t_, f_, t_, t_, f_, t_, t_, f_, t_, t_, f_, t_, t_, f_, t_, t_, f_, t_, t_, f_, t_, t_, f_, t_, t_, f_, t_, f_, f_, f_, f_, f_, f_, f_, f_, f_, f_, f_, f_, f_, f_, f_, f_, f_, f_, f_, f_, f_, f_, f_, f_, f_] { tmps := #[.map none, u_, m3_ 0 0 0, m4_ 1 0 0 0, m3_ 0 0 0, m4_ 2 0 0 0, m3_ 0 0 0, m4_ 3 0 0 0, m3_ 0 0 0, m4_ 4 0 0 0, m3_ 1 0 0, m4_ 5 1 0 0, m3_ 1 1 0, m4_ 7 1 1 0, m3_ 1 1 0, m4_ 8 1 1 0, m3_ 1 1 0, m4_ 9 1 1 0, m3_ 1 1 0, m4_ 10 1 1 0, m3_ 1 1 0, m4_ 11 1 1 0, m3_ 2 0 0, m4_ 6 2 0 0, m3_ 2 2 0, m4_ 16 2 2 0, m3_ 2 2 0, m4_ 17 2 2 0, m3_ 1 1 0, u_, u_, u_, u_, u_, u_, u_, u_, u_, u_, u_, u_, u_, u_, u_, u_], defers := [] } w
 refine wpAny_take (i := 41) (fuel := 38) (oi := { dst := some 29, op := .build 301 #[(0, .const (.int .u8 12)), (1, .tmp 28)], type := 301, pos := pss, after := #[(d_ 40)], guard := none }) (v := .agg #[.int .u8 12, .int .u8 1, .int .u8 1, .int .u8 0]) (by kernel_rfl) hns (by kernel_rfl) (by kernel_rfl) (fun c a w h => hQ c a _ _ w h) (Or.inl ⟨by kernel_rfl, fun _ => by kernel_rfl⟩) ?r41
 show wpAny Tryz.prog .any tOps Q 38 #[f_, t_, t_, f_, t_, t_, f_, t_, t_, f_, t_, t_, f_, t_, t_, f_, t_, t_, f_, t_, t_, f_, t_, t_, f_, t_, t_, f_, t_, t_, f_, t_, t_, f_, t_, t_, f_, t_, t_, f_, t_, t_, f_, f_, f_, f_, f_, f_, f_, f_, f_, f_, f_, f_, f_, f_, f_, f_, f_, f_, f_, f_, f_, f_, f_, f_] { tmps := #[.map none, u_, m3_ 0 0 0, m4_ 1 0 0 0, m3_ 0 0 0, m4_ 2 0 0 0, m3_ 0 0 0, m4_ 3 0 0 0, m3_ 0 0 0, m4_ 4 0 0 0, m3_ 1 0 0, m4_ 5 1 0 0, m3_ 1 1 0, m4_ 7 1 1 0, m3_ 1 1 0, m4_ 8 1 1 0, m3_ 1 1 0, m4_ 9 1 1 0, m3_ 1 1 0, m4_ 10 1 1 0, m3_ 1 1 0, m4_ 11 1 1 0, m3_ 2 0 0, m4_ 6 2 0 0, m3_ 2 2 0, m4_ 16 2 2 0, m3_ 2 2 0, m4_ 17 2 2 0, m3_ 1 1 0, m4_ 12 1 1 0, u_, u_, u_, u_, u_, u_, u_, u_, u_, u_, u_, u_, u_, u_, u_], defers := [] } w
 refine wpAny_take (i := 43) (fuel := 37) (oi := { dst := some 30, op := .build 299 #[(0, .const (.int .u8 1)), (1, .const (.int .u8 1))], type := 299, pos := pss, after := #[], guard := none }) (v := .agg #[.int .u8 1, .int .u8 1, .int .u8 0]) (by kernel_rfl) hns (by kernel_rfl) (by kernel_rfl) (fun c a w h => hQ c a _ _ w h) (Or.inl ⟨by kernel_rfl, fun _ => by kernel_rfl⟩) ?r43
 show wpAny Tryz.prog .any tOps Q 37 #[f_, t_, t_, f_, t_, t_, f_, t_, t_, f_, t_, t_, f_, t_, t_, f_, t_, t_, f_, t_, t_, f_, t_, t_, f_, t_, t_, f_, t_, t_, f_, t_, t_, f_, t_, t_, f_, t_, t_, f_, t_, t_, f_, t_, f_, f_, f_, f_, f_, f_, f_, f_, f_, f_, f_, f_, f_, f_, f_, f_, f_, f_, f_, f_, f_, f_] { tmps := #[.map none, u_, m3_ 0 0 0, m4_ 1 0 0 0, m3_ 0 0 0, m4_ 2 0 0 0, m3_ 0 0 0, m4_ 3 0 0 0, m3_ 0 0 0, m4_ 4 0 0 0, m3_ 1 0 0, m4_ 5 1 0 0, m3_ 1 1 0, m4_ 7 1 1 0, m3_ 1 1 0, m4_ 8 1 1 0, m3_ 1 1 0, m4_ 9 1 1 0, m3_ 1 1 0, m4_ 10 1 1 0, m3_ 1 1 0, m4_ 11 1 1 0, m3_ 2 0 0, m4_ 6 2 0 0, m3_ 2 2 0, m4_ 16 2 2 0, m3_ 2 2 0, m4_ 17 2 2 0, m3_ 1 1 0, m4_ 12 1 1 0, m3_ 1 1 0, u_, u_, u_, u_, u_, u_, u_, u_, u_, u_, u_, u_, u_, u_], defers := [] } w
 refine wpAny_take (i := 44) (fuel := 36) (oi := { dst := some 31, op := .build 301 #[(0, .const (.int .u8 13)), (1, .tmp 30)], type := 301, pos := pss, after := #[(d_ 43)], guard := none }) (v := .agg #[.int .u8 13, .int .u8 1, .int .u8 1, .int .u8 0]) (by kernel_rfl) hns (by kernel_rfl) (by kernel_rfl) (fun c a w h => hQ c a _ _ w h) (Or.inl ⟨by kernel_rfl, fun _ => by kernel_rfl⟩) ?r44
 show wpAny Tryz.prog .any tOps Q 36 #[f_, t_, t_, f_, t_, t_, f_, t_, t_, f_, t_, t_, f_, t_, t_, f_, t_, t_, f_, t_, t_, f_, t_, t_, f_, t_, t_, f_, t_, t_, f_, t_, t_, f_, t_, t_, f_, t_, t_, f_, t_, t_, f_, t_, t_, f_, f_, f_, f_, f_, f_, f_, f_, f_, f_, f_, f_, f_, f_, f_, f_, f_, f_, f_, f_, f_] { tmps := #[.map none, u_, m3_ 0 0 0, m4_ 1 0 0 0, m3_ 0 0 0, m4_ 2 0 0 0, m3_ 0 0 0, m4_ 3 0 0 0, m3_ 0 0 0, m4_ 4 0 0 0, m3_ 1 0 0, m4_ 5 1 0 0, m3_ 1 1 0, m4_ 7 1 1 0, m3_ 1 1 0, m4_ 8 1 1 0, m3_ 1 1 0, m4_ 9 1 1 0, m3_ 1 1 0, m4_ 10 1 1 0, m3_ 1 1 0, m4_ 11 1 1 0, m3_ 2 0 0, m4_ 6 2 0 0, m3_ 2 2 0, m4_ 16 2 2 0, m3_ 2 2 0, m4_ 17 2 2 0, m3_ 1 1 0, m4_ 12 1 1 0, m3_ 1 1 0, m4_ 13 1 1 0, u_, u_, u_, u_, u_, u_, u_, u_, u_, u_, u_, u_, u_], defers := [] } w
 refine wpAny_take (i := 46) (fuel := 35) (oi := { dst := some 32, op := .build 299 #[(0, .const (.int .u8 1)), (1, .const (.int .u8 1))], type := 299, pos := pss, after := #[], guard := none }) (v := .agg #[.int .u8 1, .int .u8 1, .int .u8 0]) (by kernel_rfl) hns (by kernel_rfl) (by kernel_rfl) (fun c a w h => hQ c a _ _ w h) (Or.inl ⟨by kernel_rfl, fun _ => by kernel_rfl⟩) ?r46
 show wpAny Tryz.prog .any tOps Q 35 #[f_, t_, t_, f_, t_, t_, f_, t_, t_, f_, t_, t_, f_, t_, t_, f_, t_, t_, f_, t_, t_, f_, t_, t_, f_, t_, t_, f_, t_, t_, f_, t_, t_, f_, t_, t_, f_, t_, t_, f_, t_, t_, f_, t_, t_, f_, t_, f_, f_, f_, f_, f_, f_, f_, f_, f_, f_, f_, f_, f_, f_, f_, f_, f_, f_, f_] { tmps := #[.map none, u_, m3_ 0 0 0, m4_ 1 0 0 0, m3_ 0 0 0, m4_ 2 0 0 0, m3_ 0 0 0, m4_ 3 0 0 0, m3_ 0 0 0, m4_ 4 0 0 0, m3_ 1 0 0, m4_ 5 1 0 0, m3_ 1 1 0, m4_ 7 1 1 0, m3_ 1 1 0, m4_ 8 1 1 0, m3_ 1 1 0, m4_ 9 1 1 0, m3_ 1 1 0, m4_ 10 1 1 0, m3_ 1 1 0, m4_ 11 1 1 0, m3_ 2 0 0, m4_ 6 2 0 0, m3_ 2 2 0, m4_ 16 2 2 0, m3_ 2 2 0, m4_ 17 2 2 0, m3_ 1 1 0, m4_ 12 1 1 0, m3_ 1 1 0, m4_ 13 1 1 0, m3_ 1 1 0, u_, u_, u_, u_, u_, u_, u_, u_, u_, u_, u_, u_], defers := [] } w
 refine wpAny_take (i := 47) (fuel := 34) (oi := { dst := some 33, op := .build 301 #[(0, .const (.int .u8 14)), (1, .tmp 32)], type := 301, pos := pss, after := #[(d_ 46)], guard := none }) (v := .agg #[.int .u8 14, .int .u8 1, .int .u8 1, .int .u8 0]) (by kernel_rfl) hns (by kernel_rfl) (by kernel_rfl) (fun c a w h => hQ c a _ _ w h) (Or.inl ⟨by kernel_rfl, fun _ => by kernel_rfl⟩) ?r47
 show wpAny Tryz.prog .any tOps Q 34 #[f_, t_, t_, f_, t_, t_, f_, t_, t_, f_, t_, t_, f_, t_, t_, f_, t_, t_, f_, t_, t_, f_, t_, t_, f_, t_, t_, f_, t_, t_, f_, t_, t_, f_, t_, t_, f_, t_, t_, f_, t_, t_, f_, t_, t_, f_, t_, t_, f_, f_, f_, f_, f_, f_, f_, f_, f_, f_, f_, f_, f_, f_, f_, f_, f_, f_] { tmps := #[.map none, u_, m3_ 0 0 0, m4_ 1 0 0 0, m3_ 0 0 0, m4_ 2 0 0 0, m3_ 0 0 0, m4_ 3 0 0 0, m3_ 0 0 0, m4_ 4 0 0 0, m3_ 1 0 0, m4_ 5 1 0 0, m3_ 1 1 0, m4_ 7 1 1 0, m3_ 1 1 0, m4_ 8 1 1 0, m3_ 1 1 0, m4_ 9 1 1 0, m3_ 1 1 0, m4_ 10 1 1 0, m3_ 1 1 0, m4_ 11 1 1 0, m3_ 2 0 0, m4_ 6 2 0 0, m3_ 2 2 0, m4_ 16 2 2 0, m3_ 2 2 0, m4_ 17 2 2 0, m3_ 1 1 0, m4_ 12 1 1 0, m3_ 1 1 0, m4_ 13 1 1 0, m3_ 1 1 0, m4_ 14 1 1 0, u_, u_, u_, u_, u_, u_, u_, u_, u_, u_, u_], defers := [] } w
 refine wpAny_take (i := 49) (fuel := 33) (oi := { dst := some 34, op := .build 299 #[(0, .const (.int .u8 2)), (1, .const (.int .u8 2))], type := 299, pos := pss, after := #[], guard := none }) (v := .agg #[.int .u8 2, .int .u8 2, .int .u8 0]) (by kernel_rfl) hns (by kernel_rfl) (by kernel_rfl) (fun c a w h => hQ c a _ _ w h) (Or.inl ⟨by kernel_rfl, fun _ => by kernel_rfl⟩) ?r49
 show wpAny Tryz.prog .any tOps Q 33 #[f_, t_, t_, f_, t_, t_, f_, t_, t_, f_, t_, t_, f_, t_, t_, f_, t_, t_, f_, t_, t_, f_, t_, t_, f_, t_, t_, f_, t_, t_, f_, t_, t_, f_, t_, t_, f_, t_, t_, f_, t_, t_, f_, t_, t_, f_, t_, t_, f_, t_, f_, f_, f_, f_, f_, f_, f_, f_, f_, f_, f_, f_, f_, f_, f_, f_] { tmps := #[.map none, u_, m3_ 0 0 0, m4_ 1 0 0 0, m3_ 0 0 0, m4_ 2 0 0 0, m3_ 0 0 0, m4_ 3 0 0 0, m3_ 0 0 0, m4_ 4 0 0 0, m3_ 1 0 0, m4_ 5 1 0 0, m3_ 1 1 0, m4_ 7 1 1 0, m3_ 1 1 0, m4_ 8 1 1 0, m3_ 1 1 0, m4_ 9 1 1 0, m3_ 1 1 0, m4_ 10 1 1 0, m3_ 1 1 0, m4_ 11 1 1 0, m3_ 2 0 0, m4_ 6 2 0 0, m3_ 2 2 0, m4_ 16 2 2 0, m3_ 2 2 0, m4_ 17 2 2 0, m3_ 1 1 0, m4_ 12 1 1 0, m3_ 1 1 0, m4_ 13 1 1 0, m3_ 1 1 0, m4_ 14 1 1 0, m3_ 2 2 0, u_, u_, u_, u_, u_, u_, u_, u_, u_, u_], defers := [] } w
 refine wpAny_take (i := 50) (fuel := 32) (oi := { dst := some 35, op := .build 301 #[(0, .const (.int .u8 14)), (1, .tmp 34)], type := 301, pos := pss, after := #[(d_ 49)], guard := none }) (v := .agg #[.int .u8 14, .int .u8 2, .int .u8 2, .int .u8 0]) (by kernel_rfl) hns (by kernel_rfl) (by kernel_rfl) (fun c a w h => hQ c a _ _ w h) (Or.inl ⟨by kernel_rfl, fun _ => by kernel_rfl⟩) ?r50
 show wpAny Tryz.prog .any tOps Q 32 #[f_, t_, t_, f_, t_, t_, f_, t_, t_, f_, t_, t_, f_, t_, t_, f_, t_, t_, f_, t_, t_, f_, t_, t_, f_, t_, t_, f_, t_, t_, f_, t_, t_, f_, t_, t_, f_, t_, t_, f_, t_, t_, f_, t_, t_, f_, t_, t_, f_, t_, t_, f_, f_, f_, f_, f_, f_, f_, f_, f_, f_, f_, f_, f_, f_, f_] { tmps := #[.map none, u_, m3_ 0 0 0, m4_ 1 0 0 0, m3_ 0 0 0, m4_ 2 0 0 0, m3_ 0 0 0, m4_ 3 0 0 0, m3_ 0 0 0, m4_ 4 0 0 0, m3_ 1 0 0, m4_ 5 1 0 0, m3_ 1 1 0, m4_ 7 1 1 0, m3_ 1 1 0, m4_ 8 1 1 0, m3_ 1 1 0, m4_ 9 1 1 0, m3_ 1 1 0, m4_ 10 1 1 0, m3_ 1 1 0, m4_ 11 1 1 0, m3_ 2 0 0, m4_ 6 2 0 0, m3_ 2 2 0, m4_ 16 2 2 0, m3_ 2 2 0, m4_ 17 2 2 0, m3_ 1 1 0, m4_ 12 1 1 0, m3_ 1 1 0, m4_ 13 1 1 0, m3_ 1 1 0, m4_ 14 1 1 0, m3_ 2 2 0, m4_ 14 2 2 0, u_, u_, u_, u_, u_, u_, u_, u_, u_], defers := [] } w
 refine wpAny_take (i := 52) (fuel := 31) (oi := { dst := some 36, op := .build 299 #[(0, .const (.int .u8 1)), (1, .const (.int .u8 1))], type := 299, pos := pss, after := #[], guard := none }) (v := .agg #[.int .u8 1, .int .u8 1, .int .u8 0]) (by kernel_rfl) hns (by kernel_rfl) (by kernel_rfl) (fun c a w h => hQ c a _ _ w h) (Or.inl ⟨by kernel_rfl, fun _ => by kernel_rfl⟩) ?r52
 show wpAny Tryz.prog .any tOps Q 31 #[f_, t_, t_, f_, t_, t_, f_, t_, t_, f_, t_, t_, f_, t_, t_, f_, t_, t_, f_, t_, t_, f_, t_, t_, f_, t_, t_, f_, t_, t_, f_, t_, t_, f_, t_, t_, f_, t_, t_, f_, t_, t_, f_, t_, t_, f_, t_, t_, f_, t_, t_, f_, t_, f_, f_, f_, f_, f_, f_, f_, f_, f_, f_, f_, f_, f_] { tmps := #[.map none, u_, m3_ 0 0 0, m4_ 1 0 0 0, m3_ 0 0 0, m4_ 2 0 0 0, m3_ 0 0 0, m4_ 3 0 0 0, m3_ 0 0 0, m4_ 4 0 0 0, m3_ 1 0 0, m4_ 5 1 0 0, m3_ 1 1 0, m4_ 7 1 1 0, m3_ 1 1 0, m4_ 8 1 1 0, m3_ 1 1 0, m4_ 9 1 1 0, m3_ 1 1 0, m4_ 10 1 1 0, m3_ 1 1 0, m4_ 11 1 1 0, m3_ 2 0 0, m4_ 6 2 0 0, m3_ 2 2 0, m4_ 16 2 2 0, m3_ 2 2 0, m4_ 17 2 2 0, m3_ 1 1 0, m4_ 12 1 1 0, m3_ 1 1 0, m4_ 13 1 1 0, m3_ 1 1 0, m4_ 14 1 1 0, m3_ 2 2 0, m4_ 14 2 2 0, m3_ 1 1 0, u_, u_, u_, u_, u_, u_, u_, u_], defers := [] } w
 refine wpAny_take (i := 53) (fuel := 30) (oi := { dst := some 37, op := .build 301 #[(0, .const (.int .u8 15)), (1, .tmp 36)], type := 301, pos := pss, after := #[(d_ 52)], guard := none }) (v := .agg #[.int .u8 15, .int .u8 1, .int .u8 1, .int .u8 0]) (by kernel_rfl) hns (by kernel_rfl) (by kernel_rfl) (fun c a w h => hQ c a _ _ w h) (Or.inl ⟨by kernel_rfl, fun _ => by kernel_rfl⟩) ?r53
 show wpAny Tryz.prog .any tOps Q 30 #[f_, t_, t_, f_, t_, t_, f_, t_, t_, f_, t_, t_, f_, t_, t_, f_, t_, t_, f_, t_, t_, f_, t_, t_, f_, t_, t_, f_, t_, t_, f_, t_, t_, f_, t_, t_, f_, t_, t_, f_, t_, t_, f_, t_, t_, f_, t_, t_, f_, t_, t_, f_, t_, t_, f_, f_, f_, f_, f_, f_, f_, f_, f_, f_, f_, f_] { tmps := #[.map none, u_, m3_ 0 0 0, m4_ 1 0 0 0, m3_ 0 0 0, m4_ 2 0 0 0, m3_ 0 0 0, m4_ 3 0 0 0, m3_ 0 0 0, m4_ 4 0 0 0, m3_ 1 0 0, m4_ 5 1 0 0, m3_ 1 1 0, m4_ 7 1 1 0, m3_ 1 1 0, m4_ 8 1 1 0, m3_ 1 1 0, m4_ 9 1 1 0, m3_ 1 1 0, m4_ 10 1 1 0, m3_ 1 1 0, m4_ 11 1 1 0, m3_ 2 0 0, m4_ 6 2 0 0, m3_ 2 2 0, m4_ 16 2 2 0, m3_ 2 2 0, m4_ 17 2 2 0, m3_ 1 1 0, m4_ 12 1 1 0, m3_ 1 1 0, m4_ 13 1 1 0, m3_ 1 1 0, m4_ 14 1 1 0, m3_ 2 2 0, m4_ 14 2 2 0, m3_ 1 1 0, m4_ 15 1 1 0, u_, u_, u_, u_, u_, u_, u_], defers := [] } w
 refine wpAny_take (i := 55) (fuel := 29) (oi := { dst := some 38, op := .build 299 #[(0, .const (.int .u8 2)), (1, .const (.int .u8 2))], type := 299, pos := pss, after := #[], guard := none }) (v := .agg #[.int .u8 2, .int .u8 2, .int .u8 0]) (by kernel_rfl) hns (by kernel_rfl) (by kernel_rfl) (fun c a w h => hQ c a _ _ w h) (Or.inl ⟨by kernel_rfl, fun _ => by kernel_rfl⟩) ?r55
 show wpAny Tryz.prog .any tOps Q 29 #[f_, t_, t_, f_, t_, t_, f_, t_, t_, f_, t_, t_, f_, t_, t_, f_, t_, t_, f_, t_, t_, f_, t_, t_, f_, t_, t_, f_, t_, t_, f_, t_, t_, f_, t_, t_, f_, t_, t_, f_, t_, t_, f_, t_, t_, f_, t_, t_, f_, t_, t_, f_, t_, t_, f_, t_, f_, f_, f_, f_, f_, f_, f_, f_, f_, f_] { tmps := #[.map none, u_, m3_ 0 0 0, m4_ 1 0 0 0, m3_ 0 0 0, m4_ 2 0 0 0, m3_ 0 0 0, m4_ 3 0 0 0, m3_ 0 0 0, m4_ 4 0 0 0, m3_ 1 0 0, m4_ 5 1 0 0, m3_ 1 1 0, m4_ 7 1 1 0, m3_ 1 1 0, m4_ 8 1 1 0, m3_ 1 1 0, m4_ 9 1 1 0, m3_ 1 1 0, m4_ 10 1 1 0, m3_ 1 1 0, m4_ 11 1 1 0, m3_ 2 0 0, m4_ 6 2 0 0, m3_ 2 2 0, m4_ 16 2 2 0, m3_ 2 2 0, m4_ 17 2 2 0, m3_ 1 1 0, m4_ 12 1 1 0, m3_ 1 1 0, m4_ 13 1 1 0, m3_ 1 1 0, m4_ 14 1 1 0, m3_ 2 2 0, m4_ 14 2 2 0, m3_ 1 1 0, m4_ 15 1 1 0, m3_ 2 2 0, u_, u_, u_, u_, u_, u_], defers := [] } w
 refine wpAny_take (i := 56) (fuel := 28) (oi := { dst := some 39, op := .build 301 #[(0, .const (.int .u8 15)), (1, .tmp 38)], type := 301, pos := pss, after := #[(d_ 55)], guard := none }) (v := .agg #[.int .u8 15, .int .u8 2, .int .u8 2, .int .u8 0]) (by kernel_rfl) hns (by kernel_rfl) (by kernel_rfl) (fun c a w h => hQ c a _ _ w h) (Or.inl ⟨by kernel_rfl, fun _ => by kernel_rfl⟩) ?r56
 show wpAny Tryz.prog .any tOps Q 28 #[f_, t_, t_, f_, t_, t_, f_, t_, t_, f_, t_, t_, f_, t_, t_, f_, t_, t_, f_, t_, t_, f_, t_, t_, f_, t_, t_, f_, t_, t_, f_, t_, t_, f_, t_, t_, f_, t_, t_, f_, t_, t_, f_, t_, t_, f_, t_, t_, f_, t_, t_, f_, t_, t_, f_, t_, t_, f_, f_, f_, f_, f_, f_, f_, f_, f_] { tmps := #[.map none, u_, m3_ 0 0 0, m4_ 1 0 0 0, m3_ 0 0 0, m4_ 2 0 0 0, m3_ 0 0 0, m4_ 3 0 0 0, m3_ 0 0 0, m4_ 4 0 0 0, m3_ 1 0 0, m4_ 5 1 0 0, m3_ 1 1 0, m4_ 7 1 1 0, m3_ 1 1 0, m4_ 8 1 1 0, m3_ 1 1 0, m4_ 9 1 1 0, m3_ 1 1 0, m4_ 10 1 1 0, m3_ 1 1 0, m4_ 11 1 1 0, m3_ 2 0 0, m4_ 6 2 0 0, m3_ 2 2 0, m4_ 16 2 2 0, m3_ 2 2 0, m4_ 17 2 2 0, m3_ 1 1 0, m4_ 12 1 1 0, m3_ 1 1 0, m4_ 13 1 1 0, m3_ 1 1 0, m4_ 14 1 1 0, m3_ 2 2 0, m4_ 14 2 2 0, m3_ 1 1 0, m4_ 15 1 1 0, m3_ 2 2 0, m4_ 15 2 2 0, u_, u_, u_, u_, u_], defers := [] } w
 refine wpAny_take (i := 58) (fuel := 27) (oi := { dst := some 40, op := .build 299 #[(0, .const (.int .u8 2)), (1, .const (.int .u8 1)), (2, .const (.int .u8 1))], type := 299, pos := pss, after := #[], guard := none }) (v := .agg #[.int .u8 2, .int .u8 1, .int .u8 1]) (by kernel_rfl) hns (by kernel_rfl) (by kernel_rfl) (fun c a w h => hQ c a _ _ w h) (Or.inl ⟨by kernel_rfl, fun _ => by kernel_rfl⟩) ?r58
 show wpAny Tryz.prog .any tOps Q 27 #[f_, t_, t_, f_, t_, t_, f_, t_, t_, f_, t_, t_, f_, t_, t_, f_, t_, t_, f_, t_, t_, f_, t_, t_, f_, t_, t_, f_, t_, t_, f_, t_, t_, f_, t_, t_, f_, t_, t_, f_, t_, t_, f_, t_, t_, f_, t_, t_, f_, t_, t_, f_, t_, t_, f_, t_, t_, f_, t_, f_, f_, f_, f_, f_, f_, f_] { tmps := #[.map none, u_, m3_ 0 0 0, m4_ 1 0 0 0, m3_ 0 0 0, m4_ 2 0 0 0, m3_ 0 0 0, m4_ 3 0 0 0, m3_ 0 0 0, m4_ 4 0 0 0, m3_ 1 0 0, m4_ 5 1 0 0, m3_ 1 1 0, m4_ 7 1 1 0, m3_ 1 1 0, m4_ 8 1 1 0, m3_ 1 1 0, m4_ 9 1 1 0, m3_ 1 1 0, m4_ 10 1 1 0, m3_ 1 1 0, m4_ 11 1 1 0, m3_ 2 0 0, m4_ 6 2 0 0, m3_ 2 2 0, m4_ 16 2 2 0, m3_ 2 2 0, m4_ 17 2 2 0, m3_ 1 1 0, m4_ 12 1 1 0, m3_ 1 1 0, m4_ 13 1 1 0, m3_ 1 1 0, m4_ 14 1 1 0, m3_ 2 2 0, m4_ 14 2 2 0, m3_ 1 1 0, m4_ 15 1 1 0, m3_ 2 2 0, m4_ 15 2 2 0, m3_ 2 1 1, u_, u_, u_, u_], defers := [] } w
 refine wpAny_take (i := 59) (fuel := 26) (oi := { dst := some 41, op := .build 301 #[(0, .const (.int .u8 18)), (1, .tmp 40)], type := 301, pos := pss, after := #[(d_ 58)], guard := none }) (v := .agg #[.int .u8 18, .int .u8 2, .int .u8 1, .int .u8 1]) (by kernel_rfl) hns (by kernel_rfl) (by kernel_rfl) (fun c a w h => hQ c a _ _ w h) (Or.inl ⟨by kernel_rfl, fun _ => by kernel_rfl⟩) ?r59
 show wpAny Tryz.prog .any tOps Q 26 #[f_, t_, t_, f_, t_, t_, f_, t_, t_, f_, t_, t_, f_, t_, t_, f_, t_, t_, f_, t_, t_, f_, t_, t_, f_, t_, t_, f_, t_, t_, f_, t_, t_, f_, t_, t_, f_, t_, t_, f_, t_, t_, f_, t_, t_, f_, t_, t_, f_, t_, t_, f_, t_, t_, f_, t_, t_, f_, t_, t_, f_, f_, f_, f_, f_, f_] { tmps := #[.map none, u_, m3_ 0 0 0, m4_ 1 0 0 0, m3_ 0 0 0, m4_ 2 0 0 0, m3_ 0 0 0, m4_ 3 0 0 0, m3_ 0 0 0, m4_ 4 0 0 0, m3_ 1 0 0, m4_ 5 1 0 0, m3_ 1 1 0, m4_ 7 1 1 0, m3_ 1 1 0, m4_ 8 1 1 0, m3_ 1 1 0, m4_ 9 1 1 0, m3_ 1 1 0, m4_ 10 1 1 0, m3_ 1 1 0, m4_ 11 1 1 0, m3_ 2 0 0, m4_ 6 2 0 0, m3_ 2 2 0, m4_ 16 2 2 0, m3_ 2 2 0, m4_ 17 2 2 0, m3_ 1 1 0, m4_ 12 1 1 0, m3_ 1 1 0, m4_ 13 1 1 0, m3_ 1 1 0, m4_ 14 1 1 0, m3_ 2 2 0, m4_ 14 2 2 0, m3_ 1 1 0, m4_ 15 1 1 0, m3_ 2 2 0, m4_ 15 2 2 0, m3_ 2 1 1, m4_ 18 2 1 1, u_, u_, u_], defers := [] } w
 refine wpAny_take (i := 61) (fuel := 25) (oi := { dst := some 42, op := .build 299 #[(0, .const (.int .u8 2)), (1, .const (.int .u8 2)), (2, .const (.int .u8 2))], type := 299, pos := pss, after := #[], guard := none }) (v := .agg #[.int .u8 2, .int .u8 2, .int .u8 2]) (by kernel_rfl) hns (by kernel_rfl) (by kernel_rfl) (fun c a w h => hQ c a _ _ w h) (Or.inl ⟨by kernel_rfl, fun _ => by kernel_rfl⟩) ?r61
 show wpAny Tryz.prog .any tOps Q 25 #[f_, t_, t_, f_, t_, t_, f_, t_, t_, f_, t_, t_, f_, t_, t_, f_, t_, t_, f_, t_, t_, f_, t_, t_, f_, t_, t_, f_, t_, t_, f_, t_, t_, f_, t_, t_, f_, t_, t_, f_, t_, t_, f_, t_, t_, f_, t_, t_, f_, t_, t_, f_, t_, t_, f_, t_, t_, f_, t_, t_, f_, t_, f_, f_, f_, f_] { tmps := #[.map none, u_, m3_ 0 0 0, m4_ 1 0 0 0, m3_ 0 0 0, m4_ 2 0 0 0, m3_ 0 0 0, m4_ 3 0 0 0, m3_ 0 0 0, m4_ 4 0 0 0, m3_ 1 0 0, m4_ 5 1 0 0, m3_ 1 1 0, m4_ 7 1 1 0, m3_ 1 1 0, m4_ 8 1 1 0, m3_ 1 1 0, m4_ 9 1 1 0, m3_ 1 1 0, m4_ 10 1 1 0, m3_ 1 1 0, m4_ 11 1 1 0, m3_ 2 0 0, m4_ 6 2 0 0, m3_ 2 2 0, m4_ 16 2 2 0, m3_ 2 2 0, m4_ 17 2 2 0, m3_ 1 1 0, m4_ 12 1 1 0, m3_ 1 1 0, m4_ 13 1 1 0, m3_ 1 1 0, m4_ 14 1 1 0, m3_ 2 2 0, m4_ 14 2 2 0, m3_ 1 1 0, m4_ 15 1 1 0, m3_ 2 2 0, m4_ 15 2 2 0, m3_ 2 1 1, m4_ 18 2 1 1, m3_ 2 2 2, u_, u_], defers := [] } w
 refine wpAny_take (i := 62) (fuel := 24) (oi := { dst := some 43, op := .build 301 #[(0, .const (.int .u8 18)), (1, .tmp 42)], type := 301, pos := pss, after := #[(d_ 61)], guard := none }) (v := .agg #[.int .u8 18, .int .u8 2, .int .u8 2, .int .u8 2]) (by kernel_rfl) hns (by kernel_rfl) (by kernel_rfl) (fun c a w h => hQ c a _ _ w h) (Or.inl ⟨by kernel_rfl, fun _ => by kernel_rfl⟩) ?r62
 show wpAny Tryz.prog .any tOps Q 24 #[f_, t_, t_, f_, t_, t_, f_, t_, t_, f_, t_, t_, f_, t_, t_, f_, t_, t_, f_, t_, t_, f_, t_, t_, f_, t_, t_, f_, t_, t_, f_, t_, t_, f_, t_, t_, f_, t_, t_, f_, t_, t_, f_, t_, t_, f_, t_, t_, f_, t_, t_, f_, t_, t_, f_, t_, t_, f_, t_, t_, f_, t_, t_, f_, f_, f_] { tmps := #[.map none, u_, m3_ 0 0 0, m4_ 1 0 0 0, m3_ 0 0 0, m4_ 2 0 0 0, m3_ 0 0 0, m4_ 3 0 0 0, m3_ 0 0 0, m4_ 4 0 0 0, m3_ 1 0 0, m4_ 5 1 0 0, m3_ 1 1 0, m4_ 7 1 1 0, m3_ 1 1 0, m4_ 8 1 1 0, m3_ 1 1 0, m4_ 9 1 1 0, m3_ 1 1 0, m4_ 10 1 1 0, m3_ 1 1 0, m4_ 11 1 1 0, m3_ 2 0 0, m4_ 6 2 0 0, m3_ 2 2 0, m4_ 16 2 2 0, m3_ 2 2 0, m4_ 17 2 2 0, m3_ 1 1 0, m4_ 12 1 1 0, m3_ 1 1 0, m4_ 13 1 1 0, m3_ 1 1 0, m4_ 14 1 1 0, m3_ 2 2 0, m4_ 14 2 2 0, m3_ 1 1 0, m4_ 15 1 1 0, m3_ 2 2 0, m4_ 15 2 2 0, m3_ 2 1 1, m4_ 18 2 1 1, m3_ 2 2 2, m4_ 18 2 2 2, u_], defers := [] } w
 exact h
end Go.Proofs.YtepdecnegihhhaaGreatDoor.exp
end

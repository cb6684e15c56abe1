/- What changelingref08.Same and Deep answer. What Same knows of the pairs that it has met and of those that are .. -/
import Derived.Test.YtepdecnegihhhaaGreatDoorMEx
import Derived.ChangeKeysEq
import Derived.Deep.AppendLies
set_option linter.unusedSimpArgs false
set_option linter.unusedVariables false
namespace Go.Proofs.YtepdecnegihhhaaGreatDoor.exp
section
open Go.RowKit nam
def SPost (x y : Ex) (w : World) (e : Ending) (w' : World) : Prop := ∃ r : Bool, e = .returned (.bool r) ∧ (r = true ↔ x = y) ∧ Below w.heap.size w w'
theorem SPost.no {x y : Ex} {w w' : World} (h : x ≠ y) (hb : Below w.heap.size w w') : SPost x y w (.returned (.bool false)) w' := ⟨false, rfl, by simp [h], hb⟩
theorem SPost.yes {x y : Ex} {w w' : World} (h : x = y) (hb : Below w.heap.size w w') : SPost x y w (.returned (.bool true)) w' := ⟨true, rfl, by simp [h], hb⟩
structure Two (w W : World) (N : Nat) (x y : Ex) (v u : Value) : Prop where
 size : w.heap.size = N
 below : Below w.heap.size w W
 x0 : W.cell? ⟨N, 0, none⟩ = some (.int .u8 (x.op : Int))
 x1 : W.cell? ⟨N, 1, none⟩ = some (.int .i64 x.n)
 x2 : W.cell? ⟨N, 2, none⟩ = some v
 y0 : W.cell? ⟨N + 1, 0, none⟩ = some (.int .u8 (y.op : Int))
 y1 : W.cell? ⟨N + 1, 1, none⟩ = some (.int .i64 y.n)
 y2 : W.cell? ⟨N + 1, 2, none⟩ = some u
 lt : W.heap.size = N + 1 + 1
theorem two_made (w : World) (x y : Ex) (v u : Value) : ∃ N W, (w.alloc (.cells #[.int .u8 (x.op : Int), .int .i64 x.n, v] 46)).alloc (.cells #[.int .u8 (y.op : Int), .int .i64 y.n, u] 46) = W ∧ Two w W N x y v u := by
 obtain ⟨N, hN⟩ : ∃ N, w.heap.size = N := ⟨_, rfl⟩
 refine ⟨N, _, rfl, hN, ((Below.refl _ _).alloc (Nat.le_refl _) _).alloc (by simp) _, ?_, ?_, ?_, ?_, ?_, ?_, by simp [hN]⟩
 · exact cell_of (heap_old (heap_last hN.symm)) rfl
 · exact cell_of (heap_old (heap_last hN.symm)) rfl
 · exact cell_of (heap_old (heap_last hN.symm)) rfl
 · exact cell_of (heap_last (by simp [hN])) rfl
 · exact cell_of (heap_last (by simp [hN])) rfl
 · exact cell_of (heap_last (by simp [hN])) rfl
end
section
open Go.RowKit nam
structure Pq where
 a : Nat
 b : Nat
 c : Nat
 d : Nat
 x : Ex
 y : Ex
def Pq.key (p : Pq) : Addr × Addr := (⟨p.a, p.b, none⟩, ⟨p.c, p.d, none⟩)
def Pq.cells (p : Pq) : List Value := [.pointer (some ⟨p.a, p.b, none⟩), .pointer (some ⟨p.c, p.d, none⟩)]
def Pq.in (W : World) (p : Pq) : Prop := At W Any p.a p.b p.x ∧ At W Any p.c p.d p.y
def lsum (l : List Pq) : Nat := (l.map fun p => p.x.size).sum
theorem lsum_snoc (l : List Pq) (p : Pq) : lsum (l ++ [p]) = lsum l + p.x.size := by simp [lsum]
theorem lsum_len (l : List Pq) : l.length ≤ lsum l := by
 induction l with
 | nil => simp [lsum]
 | cons p l ih =>
  have := size_pos p.x
  simp only [lsum, List.map_cons, List.sum_cons, List.length_cons] at *
  omega
def Eqs (l : List Pq) (s : Nat) : Prop := ∀ e ∈ l, e.x.size ≤ s → e.x = e.y
theorem Eqs.mono {l l' : List Pq} {s s' : Nat} (h : Eqs l s) (hl : ∀ e ∈ l', e ∈ l) (hs : s' ≤ s) : Eqs l' s' := fun e he h1 => h e (hl e he) (by omega)
abbrev Met := Addr × Addr → Option Unit
structure Out2 (W : World) (x0 y0 : Ex) (l : List Pq) (m : Met) (S : Nat) : Prop where
 ins : ∀ e ∈ l, e.in W
 down : x0 = y0 → ∀ e ∈ l, e.x = e.y
 up : (∀ e ∈ l, e.x = e.y) → x0 = y0
 met : ∀ k u, m k = some u → ∃ p : Pq, p.key = k ∧ p.in W ∧ (Eqs l p.x.size → p.x = p.y)
 mass : lsum l ≤ S
structure In2 (W : World) (x0 y0 : Ex) (p : Pq) (i : Nat) (l : List Pq) (m : Met) (S : Nat) : Prop where
 ins : ∀ e ∈ l, e.in W
 down : x0 = y0 → (∀ e ∈ l, e.x = e.y) ∧ p.x = p.y
 up : (∀ e ∈ l, e.x = e.y) → p.x = p.y → x0 = y0
 done : ∀ j (h1 : j < p.x.args.length) (h2 : j < p.y.args.length), j < i → Eqs l (p.x.args[j].size) → p.x.args[j] = p.y.args[j]
 met : ∀ k u, m k = some u → ∃ q : Pq, q.key = k ∧ q.in W ∧ (Eqs l q.x.size → (p.x.size ≤ q.x.size → p.x = p.y) → q.x = q.y)
 mass : lsum l + sizes (p.x.args.drop i) + 1 ≤ S
theorem Out2.pop {W : World} {x0 y0 : Ex} {l : List Pq} {p : Pq} {m : Met} {S : Nat} (h : Out2 W x0 y0 (l ++ [p]) m S) : In2 W x0 y0 p 0 l m S := by
 refine ⟨fun e he => h.ins e (by simp [he]), fun h0 => ⟨fun e he => h.down h0 e (by simp [he]), h.down h0 p (by simp)⟩, fun ha hp => h.up fun e he => ?_, fun j _ _ hj => by omega, fun k u hk => ?_, ?_⟩
 · rcases List.mem_append.1 he with h1 | h1
   · exact ha e h1
   · rw [List.mem_singleton.1 h1]; exact hp
 · obtain ⟨q, h1, h2, h3⟩ := h.met k u hk
   refine ⟨q, h1, h2, fun ha hp => h3 fun e he hs => ?_⟩
   rcases List.mem_append.1 he with h4 | h4
   · exact ha e h4 hs
   · rw [List.mem_singleton.1 h4] at hs ⊢; exact hp hs
 · have := h.mass
   rw [lsum_snoc, size_eq p.x] at this
   simp only [List.drop_zero]
   omega
theorem Out2.ne {W : World} {x0 y0 : Ex} {l : List Pq} {p : Pq} {m : Met} {S : Nat} (h : Out2 W x0 y0 (l ++ [p]) m S) (hn : p.x ≠ p.y) : x0 ≠ y0 := fun e => hn (h.down e p (by simp))
theorem sizes_drop {l : List Ex} {i : Nat} (hi : i < l.length) : sizes (l.drop i) = l[i].size + sizes (l.drop (i + 1)) := by
 rw [List.drop_eq_getElem_cons hi, sizes_cons]
theorem In2.skip {W : World} {x0 y0 : Ex} {p : Pq} {i : Nat} {l : List Pq} {m : Met} {S : Nat} (h : In2 W x0 y0 p i l m S) {c : Pq} (hc : c.in W) (h1 : i < p.x.args.length) (h2 : i < p.y.args.length) (hx : c.x = p.x.args[i]) (hy : c.y = p.y.args[i]) {u : Unit} (hm : m c.key = some u) : In2 W x0 y0 p (i + 1) l m S := by
 refine ⟨h.ins, h.down, h.up, fun j g1 g2 hj he => ?_, h.met, ?_⟩
 · by_cases hji : j < i
   · exact h.done j g1 g2 hji he
   · obtain rfl : j = i := by omega
     obtain ⟨q, k1, k2, k3⟩ := h.met _ _ hm
     have e1 : q.x = c.x ∧ q.y = c.y := by
      unfold Pq.key at k1
      simp only [Prod.mk.injEq, Addr.mk.injEq, and_true] at k1
      obtain ⟨⟨a1, a2⟩, a3, a4⟩ := k1
      have q1 := k2.1; have q2 := k2.2
      rw [a1, a2] at q1
      rw [a3, a4] at q2
      exact ⟨q1.det hc.1, q2.det hc.2⟩
     have hsz : p.x.args[j].size < p.x.size := size_arg (List.getElem_mem g1)
     have := k3 (by rw [e1.1, hx]; exact he) (fun hs => by rw [e1.1, hx] at hs; omega)
     rw [← hx, ← hy, ← e1.1, ← e1.2]
     exact this
 · have := h.mass
   rw [sizes_drop h1] at this
   omega
theorem In2.push {W : World} {x0 y0 : Ex} {p : Pq} {i : Nat} {l : List Pq} {m : Met} {S : Nat} (h : In2 W x0 y0 p i l m S) {c : Pq} (hc : c.in W) (h1 : i < p.x.args.length) (h2 : i < p.y.args.length) (hx : c.x = p.x.args[i]) (hy : c.y = p.y.args[i]) : In2 W x0 y0 p (i + 1) (l ++ [c]) (upd m c.key ()) S := by
 refine ⟨fun e he => ?_, fun h0 => ⟨fun e he => ?_, (h.down h0).2⟩, fun ha hp => h.up (fun e he => ha e (by simp [he])) hp, fun j g1 g2 hj he => ?_, fun k u hk => ?_, ?_⟩
 · rcases List.mem_append.1 he with h4 | h4
   · exact h.ins e h4
   · rw [List.mem_singleton.1 h4]; exact hc
 · rcases List.mem_append.1 he with h4 | h4
   · exact (h.down h0).1 e h4
   · rw [List.mem_singleton.1 h4, hx, hy]
     have := (h.down h0).2
     simp only [this]
 · by_cases hji : j < i
   · exact h.done j g1 g2 hji (he.mono (fun e he => by simp [he]) (Nat.le_refl _))
   · obtain rfl : j = i := by omega
     rw [← hx, ← hy]
     exact he c (by simp) (by rw [hx]; exact Nat.le_refl _)
 · by_cases hkc : k = c.key
   · subst hkc
     exact ⟨c, rfl, hc, fun he _ => he c (by simp) (Nat.le_refl _)⟩
   · rw [upd_other _ _ hkc] at hk
     obtain ⟨q, k1, k2, k3⟩ := h.met k u hk
     exact ⟨q, k1, k2, fun he hp => k3 (he.mono (fun e he => by simp [he]) (Nat.le_refl _)) hp⟩
 · have := h.mass
   rw [sizes_drop h1] at this
   rw [lsum_snoc, hx]
   omega
theorem In2.out {W : World} {x0 y0 : Ex} {p : Pq} {i : Nat} {l : List Pq} {m : Met} {S : Nat} (h : In2 W x0 y0 p i l m S) (hi : p.x.args.length ≤ i) (ho : p.x.op = p.y.op) (hn : p.x.n = p.y.n) (hl : p.x.args.length = p.y.args.length) : Out2 W x0 y0 l m (S - 1) := by
 have hp : ∀ s, p.x.size ≤ s → Eqs l s → p.x = p.y := fun s hs he => Ex.ext' ho hn (List.ext_getElem hl fun j g1 g2 => h.done j g1 g2 (by omega) (he.mono (fun e he => he) (by have := size_arg (List.getElem_mem g1); omega)))
 refine ⟨h.ins, fun h0 => (h.down h0).1, fun ha => h.up ha (hp p.x.size (Nat.le_refl _) fun e he _ => ha e he), fun k u hk => ?_, by have := h.mass; omega⟩
 obtain ⟨q, k1, k2, k3⟩ := h.met k u hk
 exact ⟨q, k1, k2, fun he => k3 he fun hs => hp q.x.size hs he⟩
def pqs (l : List Pq) : List Value := l.flatMap Pq.cells
theorem pqs_len (l : List Pq) : (pqs l).length = l.length * 2 := by
 induction l with
 | nil => rfl
 | cons p l ih =>
  have e : pqs (p :: l) = p.cells ++ pqs l := rfl
  have e2 : p.cells.length = 2 := rfl
  rw [e, List.length_append, e2, ih, List.length_cons]; omega
theorem pqs_snoc (l : List Pq) (p : Pq) : pqs (l ++ [p]) = pqs l ++ p.cells := by simp [pqs]
end
section
open Go.RowKit nam
theorem part0 (a b : Option Addr) (w : World) : (part 161 #[.pointer a, .pointer b] 0).run Tryz.prog w = .ok (.pointer a) w := by kernel_rfl
theorem part1 (a b : Option Addr) (w : World) : (part 161 #[.pointer a, .pointer b] 1).run Tryz.prog w = .ok (.pointer b) w := by kernel_rfl
theorem cells60 : Tryz.prog.cellsOf 161 = 1 := by kernel_rfl
theorem run_equalIn_pair (d : Nat) {w : World} {a b : Addr × Addr} (ha : PlainB w a) (hb : PlainB w b) : (Op.equalIn (d + 2) 274 (kB a) (kB b)).run Tryz.prog w = .ok (decide (a = b)) w := by
 have hte : (Tryz.prog.info? 161).isSome = true := by kernel_rfl
 obtain ⟨i, hi⟩ := Option.isSome_iff_exists.1 hte
 unfold kB
 rw [show d + 2 = (d + 1) + 1 from rfl, run_equalIn_array w (d + 1) _ _ Tryz.underlying274 hi, cells60, show List.range 2 = [0, 1] from rfl]
 simp only [Op.eqItems, Sem.run_bind, Nat.zero_mul, Nat.one_mul, part0, part1, Result.andThen_ok, run_equalIn_ptr d ha.1 hb.1]
 by_cases h1 : a.1 = b.1
 · simp only [h1, decide_true, Bool.not_true, Bool.false_eq_true, if_false, Op.eqItems, Sem.run_bind, part0, part1, Result.andThen_ok, run_equalIn_ptr d ha.2 hb.2]
   by_cases h2 : a.2 = b.2
   · have : a = b := Prod.ext h1 h2
     simp [h2, this]
   · have : a ≠ b := fun e => h2 (by rw [e])
     simp [h2, this]
 · have : a ≠ b := fun e => h1 (by rw [e])
   simp [h1, this]
theorem run_checkKey_pair (em : Bool) (d : Nat) (a : Addr × Addr) (w : World) : (Instr.checkKey em (d + 2) 274 (kB a)).run Tryz.prog w = .ok () w := by
 have hte : (Tryz.prog.info? 161).isSome = true := by kernel_rfl
 obtain ⟨i, hi⟩ := Option.isSome_iff_exists.1 hte
 have hp : ∀ x w, (Instr.checkKey em (d + 1) 161 (.pointer x)).run Tryz.prog w = .ok () w := fun x w => by simp [Instr.checkKey, run_underlying Tryz.underlying161]
 unfold kB
 rw [show d + 2 = (d + 1) + 1 from rfl, Instr.checkKey]
 simp only [Sem.run_bind, run_underlying Tryz.underlying274, Result.andThen_ok]
 simp only [Std.Legacy.Range.forIn_eq_forIn_range', Std.Legacy.Range.size, Nat.sub_zero, Nat.add_one_sub_one, Nat.div_one]
 rw [show List.range' 0 2 1 = [0, 1] from rfl]
 simp only [List.forIn_cons, List.forIn_nil, Sem.run_bind, run_sizeOf w hi, cells60, Nat.zero_mul, Nat.one_mul, part0, part1, Result.andThen_ok, hp, Sem.run_pure]
def GB (W : World) (p : Addr × Addr) : Prop := GA W p.1 ∧ GA W p.2
theorem keyP {W w : World} (h : Tr W w) : KeyT Tryz.prog w kB (GB W) 274 where
 under := ⟨_, Tryz.underlying274, fun a v => rfl⟩
 inj a b h := by
  unfold kB at h
  simp only [Value.agg.injEq, Array.mk.injEq, List.cons.injEq, Value.pointer.injEq, Option.some.injEq, and_true] at h
  exact Prod.ext h.1 h.2
 eq a b ha hb := by
  have pl : ∀ {p : Addr}, GA W p → Plain w p := fun {p} ⟨c, hc⟩ => ⟨c, 46, (h _ _ hc).trans hc⟩
  exact ⟨decide (a = b), by unfold Op.equal Op.maxDepth; exact run_equalIn_pair 9998 ⟨pl ha.1, pl ha.2⟩ ⟨pl hb.1, pl hb.2⟩, by simp⟩
 check em a := run_checkKey_pair em 9998 a w
 stays a := by
  have : ∀ d, Instr.sameBits (d + 2) (kB a) (kB a) = true := fun d => by simp [Instr.sameBits, kB]
  simp [Instr.keyThatStays, this 9998]
theorem own_cut {w : World} {B e size n cap m : Nat} {g : Addr} {xs : List Value} (h : w.ownsRow B e size (.slice (some g) n cap) n xs) (hm : m ≤ n) : w.ownsRow B e size (.slice (some g) m cap) m (xs.take (m * size)) := by
 rcases h with ⟨h1, ⟨h2, _⟩ | ⟨g', cap', cur, h2, h3, h4, h5, h6, h7, h8⟩⟩
 · cases h2
 · simp only [Value.slice.injEq, Option.some.injEq, true_and] at h2
   obtain ⟨rfl, rfl⟩ := h2
   have hms : m * size ≤ n * size := Nat.mul_le_mul_right _ hm
   refine ⟨by rw [List.length_take, h1]; omega, .inr ⟨g', cap, cur, rfl, h3, h4, by omega, h6, h7, ?_⟩⟩
   rw [← h8, List.take_take, Nat.min_eq_left hms]
end
section
open Go.RowKit nam
open Go.ChangeMaps (setBlock heap_setBlock_same heap_setBlock_other)
structure Sm (W : World) (mb : Nat) (x y : Ex) (wr : World) (v : Value) (l : List Pq) (m : Met) (S : Nat) : Prop where
 row : wr.ownsRow W.heap.size 274 2 v l.length (pqs l)
 map : PM kB vU (GB W) wr mb m
 out : Out2 W x y l m S
 below : Below W.heap.size W wr
structure Si (W : World) (mb : Nat) (x y : Ex) (p : Pq) (i : Nat) (wr : World) (v : Value) (l : List Pq) (m : Met) (S : Nat) : Prop where
 row : wr.ownsRow W.heap.size 274 2 v l.length (pqs l)
 map : PM kB vU (GB W) wr mb m
 inn : In2 W x y p i l m S
 below : Below W.heap.size W wr
theorem tr_below {W w : World} (h : Below W.heap.size W w) : Tr W w := fun b c hb => h.block b (Array.getElem?_eq_some_iff.1 hb).1
theorem at_gb {W : World} {p : Pq} (h : p.in W) : GB W p.key := by
 obtain ⟨⟨c, v, _, h1, _⟩, c', v', _, h2, _⟩ := h
 exact ⟨⟨c, h1⟩, ⟨c', h2⟩⟩
theorem Sm.last {W : World} {mb : Nat} {x y : Ex} {wr : World} {v : Value} {l : List Pq} {p : Pq} {m : Met} {S : Nat} (h : Sm W mb x y wr v (l ++ [p]) m S) :
  ∃ g cap, v = .slice (some ⟨g, 0, none⟩) (l.length + 1) cap ∧ wr.cell? ⟨g, l.length * 2, none⟩ = some (.pointer (some ⟨p.a, p.b, none⟩)) ∧ wr.cell? ⟨g, l.length * 2 + 1, none⟩ = some (.pointer (some ⟨p.c, p.d, none⟩)) ∧ l.length + 1 ≤ cap ∧
   Si W mb x y p 0 wr (.slice (some ⟨g, 0, none⟩) l.length cap) l m S := by
 have hr := h.row
 rw [List.length_append, List.length_singleton] at hr
 rcases id hr with ⟨h1, ⟨_, h2⟩ | ⟨g, cap, cur, rfl, h3, h4, h5, h6, h7, h8⟩⟩
 · omega
 · refine ⟨g, cap, rfl, ?_, ?_, h5, ⟨?_, h.map, h.out.pop, h.below⟩⟩
   · rw [World.ownsRow.cellAt hr (l.length * 2) (by omega), pqs_snoc, List.getElem?_append_right (by rw [pqs_len]; omega), pqs_len]
     simp [Pq.cells]
   · rw [World.ownsRow.cellAt hr (l.length * 2 + 1) (by omega), pqs_snoc, List.getElem?_append_right (by rw [pqs_len]; omega), pqs_len]
     simp [Pq.cells]
   · have := own_cut hr (m := l.length) (by omega)
     rw [pqs_snoc, List.take_append_of_le_length (by rw [pqs_len]; omega), List.take_of_length_le (by rw [pqs_len]; omega)] at this
     exact this
theorem belowN {B : Nat} {a w : World} (h : Below B a w) (n : Nat) : Below B a (w.drewN n) := ⟨h.os, h.tape, h.output, h.size, h.block⟩
theorem infoPair : (Tryz.prog.info? 274).map (fun i => (i.zero, i.size, i.bytes)) = some (some (.agg #[.pointer none, .pointer none]), 2, 16) := by kernel_rfl
theorem cell_two_at (w : World) (x y : Value) (t : TypeId) (b : Nat) (hb : b = w.heap.size) : ∀ j v, [x, y][j]? = some v → (w.alloc (.cells #[x, y] t)).cell? ((⟨b, 0, none⟩ : Addr).add j) = some v := by
 intro j u' hj
 subst hb
 have hh : (w.alloc (.cells #[x, y] t)).heap[w.heap.size]? = some (.cells #[x, y] t (0, 0)) := heap_alloc_new w _
 have hadd : (⟨w.heap.size, 0, none⟩ : Addr).add j = ⟨w.heap.size, 0 + j, none⟩ := Go.WideShapes.add_plain _ 0 j
 rw [hadd, cell_of_row _ w.heap.size (0 + j) _ _ _ hh, Nat.zero_add]
 match j, hj with
 | 0, hj => exact hj
 | 1, hj => exact hj
theorem Si.under {W : World} {mb : Nat} {x y : Ex} {p : Pq} {i : Nat} {wr w' : World} {v : Value} {l : List Pq} {m : Met} {S : Nat} (h : Si W mb x y p i wr v l m S) (hb : Below wr.heap.size wr w') : Si W mb x y p i w' v l m S :=
 ⟨own_below h.row hb, h.map.kept (hb.block mb h.map.lt), h.inn, h.below.trans (hb.mono h.below.size)⟩
theorem Si.stored {W : World} {mb : Nat} {x y : Ex} {p : Pq} {i : Nat} {wr : World} {v : Value} {l : List Pq} {m : Met} {S : Nat} (h : Si W mb x y p i wr v l m S) (hmb : W.heap.size ≤ mb) {c : Pq} (hc : c.in W) :
  ∃ o, (Instr.mapUpdate 272 (.map (some mb)) (kB c.key) (.agg #[])).run Tryz.prog wr = .ok () (setBlock wr mb o) ∧ (setBlock wr mb o).ownsRow W.heap.size 274 2 v l.length (pqs l) ∧ PM kB vU (GB W) (setBlock wr mb o) mb (upd m c.key ()) ∧ Below W.heap.size W (setBlock wr mb o) ∧ (setBlock wr mb o).heap.size = wr.heap.size ∧
   ∀ k, k ≠ mb → (setBlock wr mb o).heap[k]? = wr.heap[k]? := by
 obtain ⟨o, h1, h2, es, clock, h3⟩ := h.map.store (keyP (tr_below h.below)) (a := c.key) (at_gb hc) Tryz.underlying272 ()
 refine ⟨o, h1, ?_, h2, ?_, by simp [setBlock], fun k hk => heap_setBlock_other h3 _ hk⟩
 · rcases h.row with ⟨g1, g2 | ⟨g, cap, cur, g3, g4, g5, g6⟩⟩
   · exact ⟨g1, .inl g2⟩
   · exact ⟨g1, .inr ⟨g, cap, cur, g3, g4, (heap_setBlock_other h3 _ (fun e => by rw [e, h3] at g5; cases g5)).trans g5, g6⟩⟩
 · have hb := h.below
   exact ⟨hb.os, hb.tape, hb.output, by simp [setBlock]; exact hb.size, fun k hk => (heap_setBlock_other h3 _ (by omega)).trans (hb.block k hk)⟩
theorem Si.looked {W : World} {mb : Nat} {x y : Ex} {p : Pq} {i : Nat} {wr : World} {v : Value} {l : List Pq} {m : Met} {S : Nat} (h : Si W mb x y p i wr v l m S) {c : Pq} (hc : c.in W) :
  (Instr.lookup 272 (.map (some mb)) (kB c.key) true).run Tryz.prog wr = .ok (.tuple #[.agg #[], .bool (m c.key).isSome]) wr := by
 have := h.map.look (keyP (tr_below h.below)) (a := c.key) (at_gb hc) Tryz.underlying272 (z := .agg #[]) (by kernel_rfl) true
 rw [this]
 cases m c.key <;> rfl
theorem Si.skip {W : World} {mb : Nat} {x y : Ex} {p : Pq} {i : Nat} {wr : World} {v : Value} {l : List Pq} {m : Met} {S : Nat} (h : Si W mb x y p i wr v l m S) {c : Pq} (hc : c.in W) (h1 : i < p.x.args.length) (h2 : i < p.y.args.length) (hx : c.x = p.x.args[i]) (hy : c.y = p.y.args[i]) (hm : (m c.key).isSome = true) :
  Si W mb x y p (i + 1) wr v l m S := by
 obtain ⟨u, hu⟩ := Option.isSome_iff_exists.1 hm
 exact ⟨h.row, h.map, h.inn.skip hc h1 h2 hx hy hu, h.below⟩
theorem Si.pushed {W : World} {mb : Nat} {x y : Ex} {p : Pq} {i : Nat} {wr ws w' : World} {v v' : Value} {l : List Pq} {m : Met} {S : Nat} {o : Obj} (h : Si W mb x y p i wr v l m S) {c : Pq} (hc : c.in W) (h1 : i < p.x.args.length) (h2 : i < p.y.args.length) (hx : c.x = p.x.args[i]) (hy : c.y = p.y.args[i])
  (hrow : ws.ownsRow W.heap.size 274 2 v l.length (pqs l)) (hmap : PM kB vU (GB W) ws mb (upd m c.key ())) (hbel : Below W.heap.size W ws) (hown : w'.ownsRow W.heap.size 274 2 v' (l.length + 1) (pqs l ++ c.cells)) (hg : (ws.alloc o).grownBy w' v.ownBlock) :
  Si W mb x y p (i + 1) w' v' (l ++ [c]) (upd m c.key ()) S := by
 have hlt := hmap.lt
 have hsa : (ws.alloc o).heap.size = ws.heap.size + 1 := by simp
 have hown2 := (World.ownsRow.lt hrow)
 refine ⟨by rw [List.length_append, List.length_singleton, pqs_snoc]; exact hown, hmap.kept ?_, h.inn.push hc h1 h2 hx hy, ?_⟩
 · rw [hg.block mb (by omega) (fun e => ?_), Below.heap_alloc ws o mb hlt]
   obtain ⟨es, clock, k1, _⟩ := hmap.is
   rcases hrow with ⟨_, ⟨rfl, _⟩ | ⟨g, cap, cur, rfl, _, g5, _⟩⟩
   · cases e
   · simp only [Value.ownBlock, Option.some.injEq] at e
     rw [← e, k1] at g5
     cases g5
 · exact (hbel.alloc hbel.size o).grown hg (by have := hbel.size; omega) (fun k hk => (hown2 k hk).1)
theorem At.kids {w : World} {b o : Nat} {x : Ex} (h : At w Any b o x) : ∃ a c, w.cell? ⟨b, o, none⟩ = some (.int .u8 (x.op : Int)) ∧ w.cell? ⟨b, o + 1, none⟩ = some (.int .i64 x.n) ∧ w.cell? ⟨b, o + 2, none⟩ = some (.slice a x.args.length c) ∧
  (0 < x.args.length → ∃ b, a = some ⟨b, 0, none⟩ ∧ ∀ i (h : i < x.args.length), At w Any b (i * 3) x.args[i]) := by
 obtain ⟨a, c, h1, h2, h3, _, h4⟩ := h.cells
 exact ⟨a, c, h1, h2, h3, h4⟩
set_option maxHeartbeats 3200000 in
set_option maxRecDepth 1000000 in
theorem same_any {x y : Ex} {v u : Value} {F F' : Nat → Prop} {w : World} (hx : Lies w F v x.args) (hy : Lies w F' u y.args) (hs : x.size ≤ 1000000) : Calls Tryz.prog 174 #[exV x v, exV y u] w (SPost x y w) := by
 have hmm := @run_makeMap Tryz.prog
 obtain ⟨N, W, hW, hT⟩ := two_made w x y v u
 obtain ⟨W1, hW1⟩ : ∃ W1, (W.alloc (.map #[] 0)).alloc (.cells #[.pointer (some ⟨N, 0, none⟩), .pointer (some ⟨N + 1, 0, none⟩)] 274) = W1 := ⟨_, rfl⟩
 have hN := hT.size
 have hWs := hT.lt
 have hSM : Hid (Sm W (N + 1 + 1) x y W1 (.slice (some ⟨N + 1 + 1 + 1, 0, none⟩) 1 1) [⟨N, 0, N + 1, 0, x, y⟩] (fun _ => none) x.size) := Lib.hid (by
  have hpx : (⟨N, 0, N + 1, 0, x, y⟩ : Pq).in W := by
   refine ⟨⟨#[.int .u8 (x.op : Int), .int .i64 x.n, v], v, trivial, ?_, rfl, rfl, rfl, (hx.mono (fun _ _ => trivial)).under hT.below⟩, ⟨#[.int .u8 (y.op : Int), .int .i64 y.n, u], u, trivial, ?_, rfl, rfl, rfl, (hy.mono (fun _ _ => trivial)).under hT.below⟩⟩
   · rw [← hW]; exact heap_old (heap_last hN.symm)
   · rw [← hW]; exact heap_last (by simp [hN])
  have hsz : (W.alloc (.map #[] 0)).heap.size = N + 1 + 1 + 1 := by simp [hWs]
  refine ⟨?_, ?_, ⟨(fun e he => by rw [List.mem_singleton.1 he]; exact hpx), (fun h e he => by rw [List.mem_singleton.1 he]; exact h), (fun h => h ⟨N, 0, N + 1, 0, x, y⟩ (by simp)), (fun k z hk => by cases hk), (by simp [lsum])⟩, ?_⟩
  · have := World.ownsRow_lit (base := W.heap.size) (e := 274) (size := 2) (W.alloc (.map #[] 0)) #[.pointer (some ⟨N, 0, none⟩), .pointer (some ⟨N + 1, 0, none⟩)] 1 (by simp) (by unfold maxLen; omega) rfl
    rw [hsz, hW1] at this
    exact this
  · have h1 : PM kB vU (GB W) (W.alloc (.map #[] 0)) W.heap.size (fun _ => none) := PM.made W
    rw [hWs] at h1
    refine h1.kept ?_
    rw [← hW1]
    exact Below.heap_alloc _ _ _ (by rw [hsz]; omega)
  · rw [← hW1]
    exact ((Below.refl _ _).alloc (Nat.le_refl _) _).alloc (by simp) _)
 obtain ⟨x0, x1, x2, y0, y1, y2⟩ : _ ∧ _ ∧ _ ∧ _ ∧ _ ∧ _ := ⟨hT.x0, hT.x1, hT.x2, hT.y0, hT.y1, hT.y2⟩
 have HT := Lib.hid hT
 have HS := Lib.hid hs
 clear hT hx hy hs
 unfold exV
 go_enter Tryz.func174, Tryz.ntmps174
 go_wp2_with fail
 go_loopg [6, 7, 8, 9, 10, 11, 12] x.size (fun g v6 v7 v8 v9 v10 v11 v12 wr => ∃ (l : List Pq) (m : Met), g ≤ 1000000 ∧ Sm W (N + 1 + 1) x y wr v6 l m g)
 case atStart => exact ⟨_, _, HS.out, hSM.out⟩
 case round =>
  rename Nat => G
  rename World => wr
  obtain ⟨l, m, hg6, hsm⟩ := hrel
  rcases List.eq_nil_or_concat l with rfl | ⟨l, p, rfl⟩
  · have HSM := Lib.hid hsm; clear hsm
    obtain ⟨a, c, rfl⟩ : ∃ a c, u6 = Value.slice a 0 c := by
     rcases HSM.out.row.2 with ⟨h, _⟩ | ⟨g, cap, _, h, _⟩
     · exact ⟨none, 0, h⟩
     · exact ⟨_, cap, h⟩
    have HP : Hid (SPost x y w (.returned (.bool true)) wr) := Lib.hid (SPost.yes (HSM.out.out.up (fun e he => by cases he)) (HT.out.below.trans (HSM.out.below.mono HT.out.below.size)))
    go_wp2_with fail
    try rw [Exit.noGoto_ret]
    go_ret
    exact HP.out
  · rw [List.concat_eq_append] at hsm
    obtain ⟨g, cap, rfl, hc0, hc1, hcap, hsi⟩ := hsm.last
    have HSM := Lib.hid hsm; have HSI := Lib.hid hsi; clear hsm hsi
    obtain ⟨k, hk⟩ : ∃ k, l.length = k := ⟨_, rfl⟩
    have hk6 : (k : Int) ≤ 1000000 := by have h1 := HSM.out.out.mass; have h2 := lsum_len l; rw [lsum_snoc] at h1; omega
    rw [hk] at hc0 hc1 hcap
    rw [hk] at HSI
    obtain ⟨n, hn⟩ : ∃ n, k + 1 = n := ⟨_, rfl⟩
    rw [hk, hn]
    have hn1 : ((n : Int) - 1) = (k : Int) := by omega
    have hw1 : IntKind.i64.wrap (k : Int) = (k : Int) := IntWalk.i64_in _ ⟨by omega, by omega⟩
    have hkn : (k : Int) < (n : Int) := by omega
    have hkc : (k : Int) ≤ (cap : Int) := by omega
    have hn0 : (n : Int) > 0 := by omega
    have HN := Lib.hid hn; have HK := Lib.hid hk; clear hn hk
    go_wp2_with fail
    go_quiet (fail)
    go_wp2_with fail
    have HS4 : Hid (Si W (N + 1 + 1) x y p 0 (wr.drewN nq) (.slice (some ⟨g, 0, none⟩) k cap) l m G) := Lib.hid (HSI.out.under (belowN (Below.refl _ _) nq))
    generalize wr.drewN nq = w4 at HS4 ⊢
    have hpin := HSM.out.out.ins p (by simp)
    obtain ⟨a1, d1, p0, p1, p2, hk1⟩ := hpin.1.kids
    obtain ⟨a2, d2, q0, q1, q2, hk2⟩ := hpin.2.kids
    have HP1 := Lib.hid (And.intro p2 hk1); have HP2 := Lib.hid (And.intro q2 hk2)
    have HPI := Lib.hid hpin
    have tc : ∀ {b o : Nat} {z : Value}, W.cell? ⟨b, o, none⟩ = some z → b < W.heap.size → w4.cell? ⟨b, o, none⟩ = some z := fun {b o z} hz hb => (HS4.out.below.cell (p := ⟨b, o, none⟩) hb).trans hz
    have r0 := tc p0 hpin.1.lt; have r1 := tc p1 hpin.1.lt; have r2 := tc p2 hpin.1.lt
    have t0 := tc q0 hpin.2.lt; have t1 := tc q1 hpin.2.lt; have t2 := tc q2 hpin.2.lt
    clear tc p0 p1 p2 q0 q1 q2 hk1 hk2 hpin
    have HBW : Hid (Below w.heap.size w w4) := Lib.hid (HT.out.below.trans (HS4.out.below.mono HT.out.below.size))
    by_cases ho : p.x.op = p.y.op
    · have ho' : ((p.x.op : Int) != (p.y.op : Int)) = false := by simp [ho]
      have HO := Lib.hid ho; clear ho
      by_cases hnn : p.x.n = p.y.n
      · have hnn' : (p.x.n != p.y.n) = false := by simp [hnn]
        have HNN := Lib.hid hnn; clear hnn
        by_cases hl : p.x.args.length = p.y.args.length
        · have hl' : ((p.x.args.length : Int) != (p.y.args.length : Int)) = false := by simp [hl]
          have HL := Lib.hid hl; clear hl
          go_quiet (fail)
          go_wp2_with fail
          have HS5 : Hid (Si W (N + 1 + 1) x y p 0 (w4.drewN nq) (.slice (some ⟨g, 0, none⟩) k cap) l m G) := Lib.hid (HS4.out.under (belowN (Below.refl _ _) nq))
          generalize w4.drewN nq = w5 at HS5 ⊢
          have hlen6 : (p.x.args.length : Int) ≤ 1000000 := by
           have h1 := HSM.out.out.mass; have h2 := size_eq p.x; have h3 := sizes_len p.x.args; rw [lsum_snoc] at h1; omega
          have hdec : decide (0 < n) = true := by have := HN.out; simp; omega
          rw [hdec]
          clear hdec
          go_loopg [76, 6, 9, 10, 11, 12] p.x.args.length (fun g2 v76 v6 v9 v10 v11 v12 wx => ∃ (i : Nat) (l' : List Pq) (m' : Met), i + g2 = p.x.args.length ∧ v76 = .int .i64 (i : Int) ∧ Si W (N + 1 + 1) x y p i wx v6 l' m' G)
          case atStart => exact ⟨0, l, m, by omega, rfl, HS5.out⟩
          case round =>
           rename World => wx
           obtain ⟨i, l', m', hi, rfl, hsi⟩ := hrel
           have HI := Lib.hid hsi; clear hsi
           by_cases hin : i < p.x.args.length
           · have hin2 : i < p.y.args.length := by rw [← HL.out]; exact hin
             obtain ⟨b1, rfl, e1⟩ := HP1.out.2 (by omega)
             obtain ⟨b2, rfl, e2⟩ := HP2.out.2 (by omega)
             have HC : Hid ((⟨b1, i * 3, b2, i * 3, p.x.args[i], p.y.args[i]⟩ : Pq).in W) := Lib.hid ⟨e1 i hin, e2 i hin2⟩
             obtain ⟨Nx, hNx⟩ : ∃ Nx, wx.heap.size = Nx := ⟨_, rfl⟩
             obtain ⟨wa, hwa⟩ : ∃ wa, wx.alloc (.cells #[.pointer none, .pointer none] 274) = wa := ⟨_, rfl⟩
             have hba : Below wx.heap.size wx wa := by rw [← hwa]; exact (Below.refl _ _).alloc (Nat.le_refl _) _
             have hIA := HI.out.under hba
             have s2 : wa.cell? ⟨p.a, p.b + 2, none⟩ = some (.slice (some ⟨b1, 0, none⟩) p.x.args.length d1) := (hIA.below.cell (p := ⟨p.a, p.b + 2, none⟩) HPI.out.1.lt).trans HP1.out.1
             have u2 : wa.cell? ⟨p.c, p.d + 2, none⟩ = some (.slice (some ⟨b2, 0, none⟩) p.y.args.length d2) := (hIA.below.cell (p := ⟨p.c, p.d + 2, none⟩) HPI.out.2.lt).trans HP2.out.1
             have s2x : wx.cell? ⟨p.a, p.b + 2, none⟩ = some (.slice (some ⟨b1, 0, none⟩) p.x.args.length d1) := (HI.out.below.cell (p := ⟨p.a, p.b + 2, none⟩) HPI.out.1.lt).trans HP1.out.1
             have u2x : wx.cell? ⟨p.c, p.d + 2, none⟩ = some (.slice (some ⟨b2, 0, none⟩) p.y.args.length d2) := (HI.out.below.cell (p := ⟨p.c, p.d + 2, none⟩) HPI.out.2.lt).trans HP2.out.1
             have hbx : wa.heap[Nx]? = some (.cells #[.pointer none, .pointer none] 274 (0, 0)) := by rw [← hwa]; exact heap_last hNx.symm
             have z0 : wa.cell? ⟨Nx, 0, none⟩ = some (.pointer none) := cell_of hbx rfl
             have z1 : wa.cell? ⟨Nx, 1, none⟩ = some (.pointer none) := cell_of hbx rfl
             have z2 : wa.frozen? ⟨Nx, 0, none⟩ = false := by simp [World.frozen?, hbx]
             have z3 : wa.frozen? ⟨Nx, 1, none⟩ = false := by simp [World.frozen?, hbx]
             have HRES : Hid (∀ w3 : World, w3.heap = ((wa.setCell ⟨Nx, 0, none⟩ (.pointer (some ⟨b1, i * 3, none⟩))).setCell ⟨Nx, 1, none⟩ (.pointer (some ⟨b2, i * 3, none⟩))).heap → w3.os = wa.os → w3.tape = wa.tape → w3.output = wa.output →
               w3.heap[Nx]? = some (.cells #[.pointer (some ⟨b1, i * 3, none⟩), .pointer (some ⟨b2, i * 3, none⟩)] 274 (0, 0)) ∧ Si W (N + 1 + 1) x y p i w3 u6 l' m' G) := Lib.hid (by
              intro w3 g1 g2 g3 g4
              have hh1 := heap_setCell_same wa Nx 0 _ 274 (.pointer (some ⟨b1, i * 3, none⟩)) hbx
              have hh2 := heap_setCell_same _ Nx 1 _ 274 (.pointer (some ⟨b2, i * 3, none⟩)) hh1
              have hb3 : Below wx.heap.size wx w3 := by
               have hb := ((hba.setCell (p := ⟨Nx, 0, none⟩) (by show wx.heap.size ≤ Nx; omega) (.pointer (some ⟨b1, i * 3, none⟩))).setCell (p := ⟨Nx, 1, none⟩) (by show wx.heap.size ≤ Nx; omega) (.pointer (some ⟨b2, i * 3, none⟩)))
               exact ⟨g2.trans hb.os, g3.trans hb.tape, g4.trans hb.output, by rw [g1]; exact hb.size, fun k hk => by rw [g1]; exact hb.block k hk⟩
              exact ⟨by rw [g1]; exact hh2, HI.out.under hb3⟩)
             clear hIA hbx hba
             have hi1 : (i : Int) < (p.x.args.length : Int) := by omega
             have hi2 : (i : Int) < (p.y.args.length : Int) := by omega
             clear e1 e2
             go_wp2_with fail
             go_upto_region 11 with fail
             go_cut [10] (fun t w3 => t = .pointer (some ⟨Nx, 0, none⟩) ∧ w3.heap[Nx]? = some (.cells #[.pointer (some ⟨b1, i * 3, none⟩), .pointer (some ⟨b2, i * 3, none⟩)] 274 (0, 0)) ∧ Si W (N + 1 + 1) x y p i w3 u6 l' m' G)
             case first =>
              go_region
              all_goals (go_wp2_with fail; go_meet; exact ⟨rfl, HRES.out _ rfl rfl rfl rfl⟩)
             case rest =>
              rename World => wp
              obtain ⟨rfl, hbp, hsp⟩ := hcut
              have HIP := Lib.hid hsp
              have y0 : wp.cell? ⟨Nx, 0, none⟩ = some (.pointer (some ⟨b1, i * 3, none⟩)) := cell_of hbp rfl
              have y1 : wp.cell? ⟨Nx, 1, none⟩ = some (.pointer (some ⟨b2, i * 3, none⟩)) := cell_of hbp rfl
              have hlk := HIP.out.looked HC.out
              unfold kB Pq.key at hlk
              simp only [] at hlk
              have HBP := Lib.hid hbp
              obtain ⟨bm, hbm⟩ : ∃ bm, (m' (⟨b1, i * 3, none⟩, ⟨b2, i * 3, none⟩)).isSome = bm := ⟨_, rfl⟩
              rw [hbm] at hlk
              have HBM := Lib.hid hbm
              clear hsp hbp hbm
              obtain ⟨wq, hwq⟩ : ∃ wq, wp.alloc (.cells #[] 276) = wq := ⟨_, rfl⟩
              have hpq : Below wp.heap.size wp wq := by rw [← hwq]; exact (Below.refl _ _).alloc (Nat.le_refl _) _
              have HIQ := Lib.hid (HIP.out.under hpq)
              have y0q : wq.cell? ⟨Nx, 0, none⟩ = some (.pointer (some ⟨b1, i * 3, none⟩)) := (hpq.cell (p := ⟨Nx, 0, none⟩) (Array.getElem?_eq_some_iff.1 HBP.out).1).trans y0
              have y1q : wq.cell? ⟨Nx, 1, none⟩ = some (.pointer (some ⟨b2, i * 3, none⟩)) := (hpq.cell (p := ⟨Nx, 1, none⟩) (Array.getElem?_eq_some_iff.1 HBP.out).1).trans y1
              have HBQ : Hid (wq.heap[Nx]? = some (.cells #[.pointer (some ⟨b1, i * 3, none⟩), .pointer (some ⟨b2, i * 3, none⟩)] 274 (0, 0))) := Lib.hid ((hpq.block Nx (Array.getElem?_eq_some_iff.1 HBP.out).1).trans HBP.out)
              clear hpq
              cases bm with
              | true =>
               have HNX : Hid (Si W (N + 1 + 1) x y p (i + 1) wq u6 l' m' G) := Lib.hid (HIQ.out.skip HC.out hin hin2 rfl rfl HBM.out)
               go_wp2_with fail
               go_roundg (gk - 1)
               case measure => omega
               case rel => exact ⟨i + 1, l', m', by omega, by go_num, HNX.out⟩
              | false =>
               obtain ⟨i0, hi0, hz0, hz1, hz2⟩ := info_parts infoPair
               obtain ⟨ob, hmu, hrow, hmap, hbel, hsz, hoth⟩ := HIQ.out.stored (by have := hWs; omega) HC.out
               unfold kB Pq.key at hmu
               simp only [] at hmu
               obtain ⟨ws, hws⟩ : ∃ ws, setBlock wq (N + 1 + 1) ob = ws := ⟨_, rfl⟩
               rw [hws] at hmu hrow hmap hbel hsz hoth
               have hne : Nx ≠ N + 1 + 1 := fun e => by
                obtain ⟨es, clock, h1, _⟩ := HIQ.out.map.is
                rw [← e, HBQ.out] at h1
                cases h1
               have y0s : ws.cell? ⟨Nx, 0, none⟩ = some (.pointer (some ⟨b1, i * 3, none⟩)) := cell_of ((hoth Nx hne).trans HBQ.out) rfl
               have y1s : ws.cell? ⟨Nx, 1, none⟩ = some (.pointer (some ⟨b2, i * 3, none⟩)) := cell_of ((hoth Nx hne).trans HBQ.out) rfl
               have hl6 : l'.length ≤ 1000000 := by have h1 := HI.out.inn.mass; have h2 := lsum_len l'; omega
               have HROW := Lib.hid hrow; have HMAP := Lib.hid hmap; have HBEL := Lib.hid hbel
               have HSZ : Hid (∀ o, W.heap.size ≤ (ws.alloc o).heap.size) := Lib.hid (fun o => by rw [World.size_alloc]; have := hbel.size; omega)
               clear hrow hmap hbel hsz hoth hne hws
               go_wp2_with (at_builtin; refine wpList_append_own _ rfl (.tmp 103) (.tmp 105) 275 rfl W.heap.size 274 i0 (.agg #[.pointer none, .pointer none]) 2 16 Tryz.underlying275 hi0 hz0 hz1 hz2 rfl (by decide) _ _ _ rfl (HROW.out.alloc _) ⟨_, 0, none⟩ 1 1 [.pointer (some ⟨b1, i * 3, none⟩), .pointer (some ⟨b2, i * 3, none⟩)] rfl rfl (cell_two_at _ _ _ _ _ rfl) (by simp [Value.oneCell']) (by unfold maxLen; omega) (by omega) (HSZ.out _) ?_)
               intro v' w' hown' hgrow _
               have HNX : Hid (Si W (N + 1 + 1) x y p (i + 1) w' v' (l' ++ [⟨b1, i * 3, b2, i * 3, p.x.args[i], p.y.args[i]⟩]) (upd m' (Pq.key ⟨b1, i * 3, b2, i * 3, p.x.args[i], p.y.args[i]⟩) ()) G) := Lib.hid (Si.pushed HIQ.out HC.out hin hin2 rfl rfl HROW.out HMAP.out HBEL.out (by rw [hWs]; exact hown') hgrow)
               clear hown' hgrow
               go_wp2_with fail
               go_roundg (gk - 1)
               case measure => omega
               case rel => exact ⟨i + 1, _, _, by omega, by go_num, HNX.out⟩
           · have hin' : ¬ (i : Int) < (p.x.args.length : Int) := by omega
             have HX : Hid (Sm W (N + 1 + 1) x y wx u6 l' m' (G - 1)) := Lib.hid ⟨HI.out.row, HI.out.map, HI.out.inn.out (by omega) HO.out HNN.out HL.out, HI.out.below⟩
             have hgk : 1 ≤ G := by have h1 := HSM.out.out.mass; have h2 := size_pos p.x; rw [lsum_snoc] at h1; omega
             go_wp2_with fail
             go_roundg (G - 1)
             case measure => omega
             case rel => exact ⟨l', m', by omega, HX.out⟩
        · have hl' : ((p.x.args.length : Int) != (p.y.args.length : Int)) = true := by simp; omega
          have HE : Hid (x ≠ y) := Lib.hid (HSM.out.out.ne (fun e => hl (by rw [e])))
          clear hl
          go_quiet (fail)
          go_wp2_with fail
          try rw [Exit.noGoto_ret]
          go_ret
          exact SPost.no HE.out (belowN HBW.out _)
      · have hnn' : (p.x.n != p.y.n) = true := by simp [hnn]
        have HE : Hid (x ≠ y) := Lib.hid (HSM.out.out.ne (fun e => hnn (by rw [e])))
        clear hnn
        go_quiet (fail)
        go_wp2_with fail
        try rw [Exit.noGoto_ret]
        go_ret
        exact SPost.no HE.out (belowN HBW.out _)
    · have ho' : ((p.x.op : Int) != (p.y.op : Int)) = true := by simp; omega
      have HE : Hid (x ≠ y) := Lib.hid (HSM.out.out.ne (fun e => ho (by rw [e])))
      clear ho
      go_quiet (fail)
      go_wp2_with fail
      try rw [Exit.noGoto_ret]
      go_ret
      exact SPost.no HE.out (belowN HBW.out _)
end
end Go.Proofs.YtepdecnegihhhaaGreatDoor.exp

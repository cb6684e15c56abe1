/- What the three changes do to files in an array. -/
import Derived.Test.YtbnnbaoimidfnaaDkB
import Derived.Test.YtbnnbaoimidfnaaDkR
import Derived.Deep.RegionLaw
import Derived.Deep.RegionHeld3
import Derived.Laws.EntriesVeiled
import Derived.Deep.DrawnRows
namespace Go.Proofs.Ytbnnbaoimidfnaa.dsk
set_option linter.unusedSimpArgs false
set_option linter.unusedVariables false
open Go.RowKit
attribute [local go_sem ↓] Go.wp_at_zero Go.wp_at_succ

theorem within_at {n : Int} {s m : Nat} (h : win n s = m) (w : World) (h1 : -9223372036854775808 ≤ n) (h2 : n ≤ 9223372036854775807) (hm : (s : Int) ≤ 9223372036854775807) :
    Calls Try.prog 28 #[.int .i64 n, .int .i64 s] w fun e w' => e = .returned (.int .i64 m) ∧ w = w' := by
  subst h; exact within_any n s w h1 h2 hm

theorem step_append_str {ops : Array Oper} {o : Oper} {a : Act} {w : World} {K : Act → World → Prop} {Q : Exit → Act → World → Prop} {E : Prop} (hgd : o.guard = none) (sl x : Operand)
    (ho : o.op = .call { callee := .builtin .append, args := #[sl, x], argTypes := #[44, 9] })
    (v : Value) (s t : ByteArray) (hs : a.eval sl = v) (hv : Has w v s) (hx : a.eval x = .string t) (hsz : s.size + t.size ≤ 1099511627776)
    (h : ∀ v' w', Put w w' v v' (s ++ t) → K (a.put o.dst v') w') : if Region.wanted o (yielded ops a.tmps) = true then Oper.wp Try.prog o a w K Q else E := by
  have hw : Region.wanted o (yielded ops a.tmps) = true := by simp [Region.wanted, hgd]
  rw [if_pos hw]
  obtain ⟨v', w', hr, hp⟩ := append_has hv t o.type hsz
  unfold Oper.wp execOp
  simp only [ho, resolve, invoke, builtin, Sem.run_bind, Sem.run_pure, Result.andThen_ok, List.map_toArray, List.map_cons, List.map_nil, hs, hx, hr]
  exact h v' w' hp

/-- A block of another kind than bytes stands. -/
theorem Put.other {w w' : World} {v v' : Value} {s x : ByteArray} (p : Put w w' v v' x) (hv : Has w v s) {k : Nat} {C : Array Value} {T : TypeId} {fr : Nat × Nat} (hk : w.heap[k]? = some (.cells C T fr)) (hT : T ≠ 5) : w'.heap[k]? = some (.cells C T fr) := by
  rw [p.block k (Array.getElem?_eq_some_iff.1 hk).1 ?_, hk]
  intro e
  obtain ⟨cur, hc⟩ := hv.kind e
  rw [hk] at hc
  simp only [Option.some.injEq, Obj.cells.injEq] at hc
  exact hT hc.2.1
/-- A box of one cell. -/
def Box (w : World) (b : Nat) (T : TypeId) (v : Value) : Prop := w.heap[b]? = some (.cells #[v] T (0, 0))
theorem Box.cell {w : World} {b : Nat} {T : TypeId} {v : Value} (h : Box w b T v) : w.cell? ⟨b, 0, none⟩ = some v := cell_of_one h
theorem Put.box {w w' : World} {v v' u : Value} {s x : ByteArray} (p : Put w w' v v' x) (hv : Has w v s) {b : Nat} {T : TypeId} (h : Box w b T u) (hT : T ≠ 5) : Box w' b T u := p.other hv h hT
theorem Put.row {w w' : World} {v v' : Value} {s x : ByteArray} (p : Put w w' v v' x) (hv : Has w v s) {b n : Nat} {T : TypeId} {F : Nat → Value} (h : w.rowIs b T n F) (hT : T ≠ 5) : w'.rowIs b T n F := by
  obtain ⟨c, h1, h2⟩ := h
  exact ⟨c, p.other hv h1 hT, h2⟩
theorem Put.drew {w w' : World} {v v' : Value} {x : ByteArray} (p : Put w.drew w' v v' x) : Put w w' v v' x := ⟨p.os, p.tape, p.output, p.size, p.block, p.has, p.own, p.keeps, p.apart⟩

theorem other_block {w : World} {b b' n : Nat} {T T' : TypeId} {F : Nat → Value} {v : Value} (hrow : w.rowIs b T n F) (hb : Box w b' T' v) (hT : T ≠ T') : b' ≠ b := by
  rintro rfl
  obtain ⟨c, h1, _⟩ := hrow
  have h2 : w.heap[b']? = some (.cells #[v] T' (0, 0)) := hb
  rw [h1] at h2
  simp only [Option.some.injEq, Obj.cells.injEq] at h2
  exact hT h2.2.1
theorem Box.set {w : World} {b : Nat} {T : TypeId} {v : Value} (h : Box w b T v) {a : Addr} (ha : b ≠ a.block) (u : Value) : Box (w.setCell a u) b T v := (heap_setCell_other w a b u ha).trans h

set_option maxHeartbeats 1600000 in
set_option maxRecDepth 100000 in
theorem append1_any (b o i m bi bs n : Nat) (k : Int) (T : TypeId) (F : Nat → Value) (v : Value) (s t : ByteArray) (w : World) (hrow : w.rowIs b T n F) (hT : T ≠ 5) (hT3 : T ≠ 3) (hT9 : T ≠ 9) (hi : i < 16) (hn : o + 16 ≤ n) (hF : F (o + i) = v)
    (h1 : -9223372036854775808 ≤ k) (h2 : k ≤ 9223372036854775807) (hm : win k t.size = m) (hv : Has w v s) (hsz : s.size + t.size ≤ 8388608)
    (hbi : Box w bi 3 (.int .i64 i)) (hbs : Box w bs 9 (.string t)) :
    Calls Try.prog 34 #[.pointer (some ⟨b, o, none⟩), .int .i64 k, .pointer (some ⟨bi, 0, none⟩), .pointer (some ⟨bs, 0, none⟩)] w fun e w' =>
      ∃ w1 v', e = .returned (.tuple #[]) ∧ w' = w1.setCell ⟨b, o + i, none⟩ v' ∧ Put w w1 v v' (s ++ t.extract 0 m) := by
  have hml : m ≤ t.size := by rw [← hm]; exact win_le _ _
  have hml' : (m : Int) ≤ (t.size : Int) := by omega
  have hm0 : (0 : Int) ≤ (m : Int) := by omega
  have hi0 : (0 : Int) ≤ (i : Int) := by omega
  have hi1 : (i : Int) < 16 := by omega
  have hts : (t.size : Int) ≤ 9223372036854775807 := by omega
  have hc1 := hbi.cell
  have hc2 := hbs.cell
  have hc3 : w.cell? ⟨b, o + i, none⟩ = some v := by rw [hrow.cell (by omega), hF]
  have hne1 := other_block hrow hbi hT3
  have hne2 := other_block hrow hbs hT9
  obtain ⟨av0, cv0, hv0⟩ := hv.len
  have HM := Lib.hid hm
  have HV := Lib.hid hv
  have hsz2 : s.size + (t.extract 0 m).size ≤ 1099511627776 := by rw [extract_size hml]; omega
  have HSZ := Lib.hid hsz2
  have HQ : Hid (∀ w1 v1, Put w.drew w1 v v1 (s ++ t.extract 0 m) → w1.cell? ⟨b, o + i, none⟩ = some v ∧ w1.frozen? ⟨b, o + i, none⟩ = false) :=
    Lib.hid fun w1 v1 p => by
      have hr := Put.row p.drew hv hrow hT
      exact ⟨by rw [hr.cell (by omega), hF], hr.frozen _⟩
  have HK : Hid (∀ w1 v1, Put w.drew w1 v v1 (s ++ t.extract 0 m) → w1.cell? ⟨b, o + i, none⟩ = some v ∧ w1.cell? ⟨bi, 0, none⟩ = some (.int .i64 i) ∧ w1.cell? ⟨bs, 0, none⟩ = some (.string t)) :=
    Lib.hid fun w1 v1 p => ⟨by rw [(Put.row p.drew hv hrow hT).cell (by omega), hF], (Put.box p.drew hv hbi (by decide)).cell, (Put.box p.drew hv hbs (by decide)).cell⟩
  have HK2 : Hid (∀ w1 v1 u, Put w.drew w1 v v1 (s ++ t.extract 0 m) → (w1.setCell ⟨b, o + i, none⟩ u).cell? ⟨bi, 0, none⟩ = some (.int .i64 i) ∧ (w1.setCell ⟨b, o + i, none⟩ u).cell? ⟨bs, 0, none⟩ = some (.string t)) :=
    Lib.hid fun w1 v1 u p => ⟨((Put.box p.drew hv hbi (by decide)).set hne1 u).cell, ((Put.box p.drew hv hbs (by decide)).set hne2 u).cell⟩
  have HV0 := Lib.hid hv0
  clear hm hv hsz2 hrow hbi hbs hsz hF hne1 hne2 hv0
  go_enter Try.func34, Try.ntmps34
  go_wp2_with fail
  refine wp_region_peel2 (by kernel_rfl) (by simp only [List.dropLast_cons_cons, List.dropLast_singleton]; exact rfl) rfl (by kernel_rfl) ?_
  refine wpAny_of_held (S := fun w' => w'.cell? ⟨b, o + i, none⟩ = some v ∧ w'.cell? ⟨bi, 0, none⟩ = some (.int .i64 i) ∧ w'.cell? ⟨bs, 0, none⟩ = some (.string t)) _ _ _ _ ?_
  have hHeld : w.drew.cell? ⟨b, o + i, none⟩ = some v ∧ w.drew.cell? ⟨bi, 0, none⟩ = some (.int .i64 i) ∧ w.drew.cell? ⟨bs, 0, none⟩ = some (.string t) := ⟨hc3, hc1, hc2⟩
  refine wpAnyH_take (i := 0) (v := ?v1) rfl (by kernel_rfl) (by kernel_rfl) (by kernel_rfl) (fun _ _ _ h => h) (Or.inl ⟨by rfl, ?hy1⟩) (by assumption) ?rest1
  case hy1 => (intro w0 hSw; (try dsimp only at hSw); go_simp; try with_reducible rfl)
  try simp only [Act.put, List.setIfInBounds_toArray, List.set_cons_zero, List.set_cons_succ]
  refine wpAnyH_take (i := 1) (v := ?v2) rfl (by kernel_rfl) (by kernel_rfl) (by kernel_rfl) (fun _ _ _ h => h) (Or.inl ⟨by rfl, ?hy2⟩) (by assumption) ?rest2
  case hy2 => (intro w0 hSw; (try dsimp only at hSw); go_simp; try with_reducible rfl)
  try simp only [Act.put, List.setIfInBounds_toArray, List.set_cons_zero, List.set_cons_succ]
  refine wpAnyH_take (i := 2) (v := ?v3) rfl (by kernel_rfl) (by kernel_rfl) (by kernel_rfl) (fun _ _ _ h => h) (Or.inl ⟨by rfl, ?hy3⟩) (by assumption) ?rest3
  case hy3 => (intro w0 hSw; (try dsimp only at hSw); go_simp; try with_reducible rfl)
  try simp only [Act.put, List.setIfInBounds_toArray, List.set_cons_zero, List.set_cons_succ]
  refine wpAnyH_take (i := 3) (v := ?v4) rfl (by kernel_rfl) (by kernel_rfl) (by kernel_rfl) (fun _ _ _ h => h) (Or.inl ⟨by rfl, ?hy4⟩) (by assumption) ?rest4
  case hy4 => (intro w0 hSw; (try dsimp only at hSw); go_simp; try with_reducible rfl)
  try simp only [Act.put, List.setIfInBounds_toArray, List.set_cons_zero, List.set_cons_succ]
  refine wpAnyH_take (i := 4) (v := ?v5) rfl (by kernel_rfl) (by kernel_rfl) (by kernel_rfl) (fun _ _ _ h => h) (Or.inl ⟨by rfl, ?hy5⟩) (by assumption) ?rest5
  case hy5 => (intro w0 hSw; (try dsimp only at hSw); go_simp; try with_reducible rfl)
  try simp only [Act.put, List.setIfInBounds_toArray, List.set_cons_zero, List.set_cons_succ]
  refine wpAnyH_take (i := 5) (v := ?v6) rfl (by kernel_rfl) (by kernel_rfl) (by kernel_rfl) (fun _ _ _ h => h) (Or.inl ⟨by rfl, ?hy6⟩) (by assumption) ?rest6
  case hy6 => (intro w0 hSw; (try dsimp only at hSw); go_simp; try with_reducible rfl)
  try simp only [Act.put, List.setIfInBounds_toArray, List.set_cons_zero, List.set_cons_succ]
  refine wpAnyH_take (i := 6) (v := ?v7) rfl (by kernel_rfl) (by kernel_rfl) (by kernel_rfl) (fun _ _ _ h => h) (Or.inl ⟨by rfl, ?hy7⟩) (by assumption) ?rest7
  case hy7 => (intro w0 hSw; (try dsimp only at hSw); go_simp; try with_reducible rfl)
  try simp only [Act.put, List.setIfInBounds_toArray, List.set_cons_zero, List.set_cons_succ]
  refine wpAnyH_take (i := 7) (v := ?v8) rfl (by kernel_rfl) (by kernel_rfl) (by kernel_rfl) (fun _ _ _ h => h) (Or.inl ⟨by rfl, ?hy8⟩) (by assumption) ?rest8
  case hy8 => (intro w0 hSw; (try dsimp only at hSw); go_simp; try with_reducible rfl)
  try simp only [Act.put, List.setIfInBounds_toArray, List.set_cons_zero, List.set_cons_succ]
  refine wpAnyH_take (i := 8) (v := ?v9) rfl (by kernel_rfl) (by kernel_rfl) (by kernel_rfl) (fun _ _ _ h => h) (Or.inl ⟨by rfl, ?hy9⟩) (by assumption) ?rest9
  case hy9 => (intro w0 hSw; (try dsimp only at hSw); go_simp; try with_reducible rfl)
  try simp only [Act.put, List.setIfInBounds_toArray, List.set_cons_zero, List.set_cons_succ]
  refine wpAnyH_take (i := 9) (v := ?v10) rfl (by kernel_rfl) (by kernel_rfl) (by kernel_rfl) (fun _ _ _ h => h) (Or.inl ⟨by rfl, ?hy10⟩) (by assumption) ?rest10
  case hy10 => (intro w0 hSw; (try dsimp only at hSw); go_simp; try with_reducible rfl)
  try simp only [Act.put, List.setIfInBounds_toArray, List.set_cons_zero, List.set_cons_succ]
  refine wpAnyH_take (i := 10) (v := ?v11) rfl (by kernel_rfl) (by kernel_rfl) (by kernel_rfl) (fun _ _ _ h => h) (Or.inl ⟨by rfl, ?hy11⟩) (by assumption) ?rest11
  case hy11 => (intro w0 hSw; (try dsimp only at hSw); go_simp; try with_reducible rfl)
  try simp only [Act.put, List.setIfInBounds_toArray, List.set_cons_zero, List.set_cons_succ]
  refine wpAnyH_take (i := 14) (v := ?v12) rfl (by kernel_rfl) (by kernel_rfl) (by kernel_rfl) (fun _ _ _ h => h) (Or.inl ⟨by rfl, ?hy12⟩) (by assumption) ?rest12
  case hy12 => (intro w0 hSw; (try dsimp only at hSw); go_simp; try with_reducible rfl)
  try simp only [Act.put, List.setIfInBounds_toArray, List.set_cons_zero, List.set_cons_succ]
  refine wpAnyH_ready (rs := [11]) (by kernel_rfl) (by simp) ?_
  refine AllReadyH.cons rfl (fun K hK => ?_) AllReadyH.nil
  go_simp
  go_at_call 28
  refine (within_at HM.out _ h1 h2 hts).mono ?_
  rintro e w' ⟨rfl, rfl⟩
  dsimp only
  refine hK.out _ _ ?_ (fun hHeld => ?_)
  · exact hHeld
  clear hK K
  try simp only [Act.put, List.setIfInBounds_toArray, List.set_cons_zero, List.set_cons_succ]
  refine wpAnyH_take (i := 12) (v := ?v13) rfl (by kernel_rfl) (by kernel_rfl) (by kernel_rfl) (fun _ _ _ h => h) (Or.inl ⟨by rfl, ?hy13⟩) (by assumption) ?rest13
  case hy13 => (intro w0 hSw; (try dsimp only at hSw); go_simp; try with_reducible rfl)
  try simp only [Act.put, List.setIfInBounds_toArray, List.set_cons_zero, List.set_cons_succ]
  refine wpAnyH_ready (rs := [13]) (by kernel_rfl) (by simp) ?_
  refine AllReadyH.cons rfl (fun K hK => ?_) AllReadyH.nil
  refine step_append_str (by rfl) _ _ (by rfl) v s (t.extract 0 m) (by rfl) HV.out (by rfl) HSZ.out ?_
  intro v' w1 hp
  obtain ⟨av, cv, N, rfl⟩ := hp.has.len'
  obtain ⟨q1, q2⟩ := HQ.out _ _ hp
  refine hK.out _ _ ?_ (fun hHeld => ?_)
  · exact HK.out _ _ hp
  clear hK K
  try simp only [Act.put, List.setIfInBounds_toArray, List.set_cons_zero, List.set_cons_succ]
  refine wpAnyH_take (i := 15) (v := ?v14) rfl (by kernel_rfl) (by kernel_rfl) (by kernel_rfl) (fun _ _ _ h => h) (Or.inl ⟨by rfl, ?hy14⟩) (by assumption) ?rest14
  case hy14 => (intro w0 hSw; (try dsimp only at hSw); go_simp; try with_reducible rfl)
  try simp only [Act.put, List.setIfInBounds_toArray, List.set_cons_zero, List.set_cons_succ]
  refine wpAnyH_done (by kernel_rfl) ?_ _
  change wpList _ _ _ _ _ _
  go_wp2
  go_end0
  exact ⟨w1, _, rfl, rfl, hp.drew⟩
set_option maxHeartbeats 1600000 in
set_option maxRecDepth 100000 in
theorem cut1_any (b o i k bi bk n : Nat) (T : TypeId) (F : Nat → Value) (a : Option Addr) (m cap : Nat) (w : World) (hrow : w.rowIs b T n F) (hi : i < 16) (hn : o + 16 ≤ n) (hF : F (o + i) = .slice a m cap)
    (hk : k ≤ cap) (hcap : cap ≤ maxLen) (hbi : Box w bi 3 (.int .i64 i)) (hbk : Box w bk 3 (.int .i64 k)) :
    Calls Try.prog 37 #[.pointer (some ⟨b, o, none⟩), .pointer (some ⟨bi, 0, none⟩), .pointer (some ⟨bk, 0, none⟩)] w fun e w' =>
      e = .returned (.tuple #[]) ∧ w' = w.drew.setCell ⟨b, o + i, none⟩ (.slice a k k) := by
  unfold maxLen at hcap
  have hi0 : (0 : Int) ≤ (i : Int) := by omega
  have hi1 : (i : Int) < 16 := by omega
  have hk0 : (0 : Int) ≤ (k : Int) := by omega
  have hk1 : (k : Int) ≤ (cap : Int) := by omega
  have hc1 := hbi.cell
  have hc2 := hbk.cell
  have hc3 : w.cell? ⟨b, o + i, none⟩ = some (.slice a m cap) := by rw [hrow.cell (by omega), hF]
  have hf3 := hrow.frozen (o + i)
  clear hrow hbi hbk hF
  go_enter Try.func37, Try.ntmps37
  go_wp2_with fail
  refine wp_region_peel2 (by kernel_rfl) (by simp only [List.dropLast_cons_cons, List.dropLast_singleton]; exact rfl) rfl (by kernel_rfl) ?_
  refine wpAny_of_held (S := fun w' => w'.cell? ⟨b, o + i, none⟩ = some (.slice a m cap) ∧ w'.cell? ⟨bi, 0, none⟩ = some (.int .i64 i) ∧ w'.cell? ⟨bk, 0, none⟩ = some (.int .i64 k)) _ _ _ _ ?_
  have hHeld : w.drew.cell? ⟨b, o + i, none⟩ = some (.slice a m cap) ∧ w.drew.cell? ⟨bi, 0, none⟩ = some (.int .i64 i) ∧ w.drew.cell? ⟨bk, 0, none⟩ = some (.int .i64 k) := ⟨hc3, hc1, hc2⟩
  refine wpAnyH_take (i := 0) (v := ?v1) rfl (by kernel_rfl) (by kernel_rfl) (by kernel_rfl) (fun _ _ _ h => h) (Or.inl ⟨by rfl, ?hy1⟩) (by assumption) ?rest1
  case hy1 => (intro w0 hSw; (try dsimp only at hSw); go_simp; try with_reducible rfl)
  try simp only [Act.put, List.setIfInBounds_toArray, List.set_cons_zero, List.set_cons_succ]
  refine wpAnyH_take (i := 1) (v := ?v2) rfl (by kernel_rfl) (by kernel_rfl) (by kernel_rfl) (fun _ _ _ h => h) (Or.inl ⟨by rfl, ?hy2⟩) (by assumption) ?rest2
  case hy2 => (intro w0 hSw; (try dsimp only at hSw); go_simp; try with_reducible rfl)
  try simp only [Act.put, List.setIfInBounds_toArray, List.set_cons_zero, List.set_cons_succ]
  refine wpAnyH_take (i := 2) (v := ?v3) rfl (by kernel_rfl) (by kernel_rfl) (by kernel_rfl) (fun _ _ _ h => h) (Or.inl ⟨by rfl, ?hy3⟩) (by assumption) ?rest3
  case hy3 => (intro w0 hSw; (try dsimp only at hSw); go_simp; try with_reducible rfl)
  try simp only [Act.put, List.setIfInBounds_toArray, List.set_cons_zero, List.set_cons_succ]
  refine wpAnyH_take (i := 3) (v := ?v4) rfl (by kernel_rfl) (by kernel_rfl) (by kernel_rfl) (fun _ _ _ h => h) (Or.inl ⟨by rfl, ?hy4⟩) (by assumption) ?rest4
  case hy4 => (intro w0 hSw; (try dsimp only at hSw); go_simp; try with_reducible rfl)
  try simp only [Act.put, List.setIfInBounds_toArray, List.set_cons_zero, List.set_cons_succ]
  refine wpAnyH_take (i := 4) (v := ?v5) rfl (by kernel_rfl) (by kernel_rfl) (by kernel_rfl) (fun _ _ _ h => h) (Or.inl ⟨by rfl, ?hy5⟩) (by assumption) ?rest5
  case hy5 => (intro w0 hSw; (try dsimp only at hSw); go_simp; try with_reducible rfl)
  try simp only [Act.put, List.setIfInBounds_toArray, List.set_cons_zero, List.set_cons_succ]
  refine wpAnyH_take (i := 5) (v := ?v6) rfl (by kernel_rfl) (by kernel_rfl) (by kernel_rfl) (fun _ _ _ h => h) (Or.inl ⟨by rfl, ?hy6⟩) (by assumption) ?rest6
  case hy6 => (intro w0 hSw; (try dsimp only at hSw); go_simp; try with_reducible rfl)
  try simp only [Act.put, List.setIfInBounds_toArray, List.set_cons_zero, List.set_cons_succ]
  refine wpAnyH_take (i := 6) (v := ?v7) rfl (by kernel_rfl) (by kernel_rfl) (by kernel_rfl) (fun _ _ _ h => h) (Or.inl ⟨by rfl, ?hy7⟩) (by assumption) ?rest7
  case hy7 => (intro w0 hSw; (try dsimp only at hSw); go_simp; try with_reducible rfl)
  try simp only [Act.put, List.setIfInBounds_toArray, List.set_cons_zero, List.set_cons_succ]
  refine wpAnyH_take (i := 7) (v := ?v8) rfl (by kernel_rfl) (by kernel_rfl) (by kernel_rfl) (fun _ _ _ h => h) (Or.inl ⟨by rfl, ?hy8⟩) (by assumption) ?rest8
  case hy8 => (intro w0 hSw; (try dsimp only at hSw); go_simp; try with_reducible rfl)
  try simp only [Act.put, List.setIfInBounds_toArray, List.set_cons_zero, List.set_cons_succ]
  refine wpAnyH_take (i := 8) (v := ?v9) rfl (by kernel_rfl) (by kernel_rfl) (by kernel_rfl) (fun _ _ _ h => h) (Or.inl ⟨by rfl, ?hy9⟩) (by assumption) ?rest9
  case hy9 => (intro w0 hSw; (try dsimp only at hSw); go_simp; try with_reducible rfl)
  try simp only [Act.put, List.setIfInBounds_toArray, List.set_cons_zero, List.set_cons_succ]
  refine wpAnyH_take (i := 9) (v := ?v10) rfl (by kernel_rfl) (by kernel_rfl) (by kernel_rfl) (fun _ _ _ h => h) (Or.inl ⟨by rfl, ?hy10⟩) (by assumption) ?rest10
  case hy10 => (intro w0 hSw; (try dsimp only at hSw); go_simp; try with_reducible rfl)
  try simp only [Act.put, List.setIfInBounds_toArray, List.set_cons_zero, List.set_cons_succ]
  refine wpAnyH_take (i := 10) (v := ?v11) rfl (by kernel_rfl) (by kernel_rfl) (by kernel_rfl) (fun _ _ _ h => h) (Or.inl ⟨by rfl, ?hy11⟩) (by assumption) ?rest11
  case hy11 => (intro w0 hSw; (try dsimp only at hSw); go_simp; try with_reducible rfl)
  try simp only [Act.put, List.setIfInBounds_toArray, List.set_cons_zero, List.set_cons_succ]
  refine wpAnyH_take (i := 11) (v := ?v12) rfl (by kernel_rfl) (by kernel_rfl) (by kernel_rfl) (fun _ _ _ h => h) (Or.inl ⟨by rfl, ?hy12⟩) (by assumption) ?rest12
  case hy12 => (intro w0 hSw; (try dsimp only at hSw); go_simp; try with_reducible rfl)
  try simp only [Act.put, List.setIfInBounds_toArray, List.set_cons_zero, List.set_cons_succ]
  refine wpAnyH_done (by kernel_rfl) ?_ _
  change wpList _ _ _ _ _ _
  go_wp2
  go_end0
  exact ⟨rfl, rfl⟩
end Go.Proofs.Ytbnnbaoimidfnaa.dsk

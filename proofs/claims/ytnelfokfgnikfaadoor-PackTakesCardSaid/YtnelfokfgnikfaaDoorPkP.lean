/- Plain facts on jobs' bytes: what a reader reads of any bytes, the bytes of a job, there and back. No program's run in this file but what the bytes' own texts bring. -/
import Derived.Test.YtnelfokfgnikfaaDoorMJb
import Derived.Test.YtnelfokfgnikfaaDoorMBy
namespace Go.Proofs.YtnelfokfgnikfaaDoor.pk
set_option linter.unusedSimpArgs false
set_option linter.unusedVariables false
open Go.RowKit nam exp jb

/-- What is left to read, and the first error. -/
structure St where
  rest : ByteArray
  err : Int
def numO (q : St) : Int × St :=
  if q.err ≠ 0 then (0, q) else ((byt.take (byt.bl q.rest)).1, ⟨q.rest.extract (byt.take (byt.bl q.rest)).2.1 q.rest.size, (byt.take (byt.bl q.rest)).2.2⟩)
def withinO (most why : Int) (q : St) : Int × St :=
  if (numO q).1 < 0 ∨ most < (numO q).1 then (0, ⟨(numO q).2.rest, why⟩) else numO q
def textO (q : St) : ByteArray × St :=
  if q.err ≠ 0 then (ByteArray.empty, q) else ((byt.textO q.rest).1, ⟨q.rest.extract (byt.textO q.rest).2.1 q.rest.size, (byt.textO q.rest).2.2⟩)
def rowO {α : Type} (f : St → α × St) : Nat → St → List α × St
  | 0, q => ([], q)
  | n + 1, q => ((f q).1 :: (rowO f n (f q).2).1, (rowO f n (f q).2).2)
def exprO : Nat → St → Ex × St
  | 0, q => (Ex.zero, q)
  | l + 1, q =>
    (.mk (withinO 255 2 q).1.toNat (numO (withinO 255 2 q).2).1
      (rowO (exprO l) (withinO (if l = 0 then 0 else 3) 3 (numO (withinO 255 2 q).2).2).1.toNat (withinO (if l = 0 then 0 else 3) 3 (numO (withinO 255 2 q).2).2).2).1,
     (rowO (exprO l) (withinO (if l = 0 then 0 else 3) 3 (numO (withinO 255 2 q).2).2).1.toNat (withinO (if l = 0 then 0 else 3) 3 (numO (withinO 255 2 q).2).2).2).2)
def insO (q : St) : List Int × St := rowO numO (withinO 12 3 q).1.toNat (withinO 12 3 q).2
/-- A node: its Uid, its Kind, its N; what it reads; its X. -/
def headO (q : St) : (ByteArray × Nat × Int) × St :=
  (((textO q).1, (withinO 255 2 (textO q).2).1.toNat, (numO (withinO 255 2 (textO q).2).2).1), (numO (withinO 255 2 (textO q).2).2).2)
def nodeO (q : St) : Nd × St :=
  (⟨(headO q).1.1, (headO q).1.2.1, (insO (headO q).2).1, (exprO 17 (insO (headO q).2).2).1, (headO q).1.2.2⟩, (exprO 17 (insO (headO q).2).2).2)
def nodesO (q : St) : List Nd × St := rowO nodeO (withinO 12 3 q).1.toNat (withinO 12 3 q).2
def jobO (q : St) : (Int × List Nd) × St := (((numO q).1, (nodesO (numO q).2).1), (nodesO (numO q).2).2)
/-- What Take answers: the job, the error. -/
def takeO (s : ByteArray) : (Int × List Nd) × Int :=
  if (jobO ⟨s, 0⟩).2.err ≠ 0 then ((0, []), (jobO ⟨s, 0⟩).2.err)
  else if (mayO (jobO ⟨s, 0⟩).1.1 (jobO ⟨s, 0⟩).1.2).2 ≠ 0 ∨ (jobO ⟨s, 0⟩).2.rest.size ≠ 0 then ((0, []), 2) else ((jobO ⟨s, 0⟩).1, 0)

mutual
/-- The numbers of an expression. -/
def exN : Ex → List Int
  | .mk o n l => (o : Int) :: n :: (l.length : Int) :: exNs l
def exNs : List Ex → List Int
  | [] => []
  | x :: l => exN x ++ exNs l
end
theorem exN_eq (x : Ex) : exN x = (x.op : Int) :: x.n :: (x.args.length : Int) :: exNs x.args := by cases x; rw [exN]; rfl
theorem exNs_nil : exNs [] = [] := by rw [exNs]
theorem exNs_cons (x : Ex) (l : List Ex) : exNs (x :: l) = exN x ++ exNs l := by rw [exNs]
theorem exNs_take {l : List Ex} {k : Nat} (hk : k < l.length) : exNs (l.take (k + 1)) = exNs (l.take k) ++ exN l[k] := by
  induction l generalizing k with
  | nil => simp at hk
  | cons x l ih =>
    cases k with
    | zero => simp [exNs_cons, exNs_nil]
    | succ k =>
      simp only [List.take_succ_cons, exNs_cons, List.getElem_cons_succ]
      rw [ih (by simpa using hk), List.append_assoc]
theorem exNs_mem {x : Ex} {l : List Ex} (h : x ∈ l) : ∀ n ∈ exN x, n ∈ exNs l := by
  induction l with
  | nil => cases h
  | cons y l ih =>
    intro n hn
    rw [exNs_cons]
    rcases List.mem_cons.1 h with rfl | h'
    · exact List.mem_append_left _ hn
    · exact List.mem_append_right _ (ih h' n hn)
theorem exNs_all {l : List Ex} {P : Int → Prop} (h : ∀ x ∈ l, ∀ n ∈ exN x, P n) : ∀ n ∈ exNs l, P n := by
  induction l with
  | nil => intro n hn; rw [exNs_nil] at hn; cases hn
  | cons y l ih =>
    intro n hn
    rw [exNs_cons] at hn
    rcases List.mem_append.1 hn with h1 | h1
    · exact h y (by simp) n h1
    · exact ih (fun x hx => h x (by simp [hx])) n h1
theorem exNs_len_of {l : List Ex} (h : ∀ x ∈ l, (exN x).length = 3 * x.size) : (exNs l).length = 3 * sizes l := by
  induction l with
  | nil => rw [exNs_nil, sizes_nil]; rfl
  | cons y l ih =>
    rw [exNs_cons, sizes_cons, List.length_append, h y (by simp), ih fun x hx => h x (by simp [hx])]
    omega
theorem exN_len : ∀ x : Ex, (exN x).length = 3 * x.size := by
  refine Ex.ind fun x ih => ?_
  rw [exN_eq, size_eq]
  simp only [List.length_cons, exNs_len_of ih]
  omega
/-- A node's bytes; a job's. -/
def nodeN (nd : Nd) : List Int := (nd.kind : Int) :: nd.n :: (nd.ins.length : Int) :: nd.ins ++ exN nd.x
def nodeB (nd : Nd) : ByteArray := (byt.putO nd.uid).1 ++ byt.txt (byt.flat (nodeN nd))
def nodesB : List Nd → ByteArray
  | [] => ByteArray.empty
  | nd :: l => nodeB nd ++ nodesB l
def jobB (par : Int) (l : List Nd) : ByteArray := byt.txt (byt.flat [par, (l.length : Int)]) ++ nodesB l
def packO (par : Int) (l : List Nd) : ByteArray × Int := if (mayO par l).2 ≠ 0 then (ByteArray.empty, 2) else (jobB par l, 0)

/-! Rows. -/
theorem rowO_len {α : Type} {f : St → α × St} : ∀ (n : Nat) (q : St), (rowO f n q).1.length = n
  | 0, q => rfl
  | n + 1, q => by rw [rowO, List.length_cons, rowO_len]
theorem rowO_snoc {α : Type} {f : St → α × St} : ∀ (n : Nat) (q : St), rowO f (n + 1) q = ((rowO f n q).1 ++ [(f (rowO f n q).2).1], (f (rowO f n q).2).2)
  | 0, q => rfl
  | n + 1, q => by
    rw [rowO, rowO_snoc n (f q).2, rowO]
    rfl
/-- An error stays, and nothing more is read. -/
def Stops {α : Type} (f : St → α × St) : Prop := ∀ q, q.err ≠ 0 → (f q).2 = q
theorem stops_num : Stops numO := fun q h => by unfold numO; rw [if_pos h]
theorem num_zero {q : St} (h : q.err ≠ 0) : (numO q).1 = 0 := by unfold numO; rw [if_pos h]
theorem within_zero {most why : Int} {q : St} (h : q.err ≠ 0) (hm : 0 ≤ most) : withinO most why q = (0, q) := by
  unfold withinO
  have h1 := num_zero h
  rw [if_neg (by omega)]
  unfold numO
  rw [if_pos h]
theorem stops_within {most why : Int} (hm : 0 ≤ most) : Stops (withinO most why) := fun q h => by rw [within_zero h hm]
theorem stops_text : Stops textO := fun q h => by unfold textO; rw [if_pos h]
theorem stops_row {α : Type} {f : St → α × St} (hf : Stops f) : ∀ n, Stops (rowO f n)
  | 0 => fun q h => rfl
  | n + 1 => fun q h => by
    rw [rowO, hf q h]
    exact stops_row hf n q h
theorem stops_expr : ∀ l, Stops (exprO l)
  | 0 => fun q h => rfl
  | l + 1 => fun q h => by
    have hm : (0 : Int) ≤ if l = 0 then 0 else 3 := by split <;> omega
    rw [exprO]
    simp only [within_zero h (show (0 : Int) ≤ 255 by omega), stops_num q h, within_zero h hm]
    rfl
theorem stops_ins : Stops insO := fun q h => by
  unfold insO
  rw [within_zero h (by omega)]
  rfl
theorem stops_head : Stops headO := fun q h => by
  unfold headO
  simp only [stops_text q h, within_zero h (show (0 : Int) ≤ 255 by omega), stops_num q h]
theorem stops_node : Stops nodeO := fun q h => by
  unfold nodeO
  simp only [stops_head q h, stops_ins q h, stops_expr 17 q h]
theorem num_err {q : St} (h : (numO q).2.err = 0) : q.err = 0 := by
  by_cases h0 : q.err = 0
  · exact h0
  · rw [stops_num q h0] at h; exact h
theorem stops_err {α : Type} {f : St → α × St} (hf : Stops f) {q : St} (h : (f q).2.err = 0) : q.err = 0 := by
  by_cases h0 : q.err = 0
  · exact h0
  · rw [hf q h0] at h; exact h

/-! What is read without an error are the bytes of what was read. -/
/-- Read without an error, the bytes of what was read stand ahead of what is left. -/
def Tells {α : Type} (f : St → α × St) (b : α → List UInt8) : Prop := ∀ q, (f q).2.err = 0 → byt.bl q.rest = b (f q).1 ++ byt.bl (f q).2.rest
theorem bl_rest (s : ByteArray) (k : Nat) : byt.bl (s.extract k s.size) = (byt.bl s).drop k := byt.bl_extract s k
theorem tells_num : Tells numO (fun n => byt.sev (byt.tf n)) := fun q h => by
  have h0 := num_err h
  unfold numO at h ⊢
  rw [if_neg (by simp [h0])] at h ⊢
  simp only at h ⊢
  obtain ⟨u, t, h1, h2, h3⟩ := byt.take_ok h
  rw [bl_rest, h2, h1, byt.tf_fo]
  simp
theorem num_fits {q : St} : byt.fits (numO q).1 := by
  unfold numO byt.fits
  by_cases h0 : q.err = 0
  · rw [if_neg (by simp [h0])]
    by_cases h : (byt.take (byt.bl q.rest)).2.2 = 0
    · have := byt.take_size h
      exact ⟨this.2.2.2.1, this.2.2.2.2⟩
    · rcases byt.take_bad h with h1 | h1 <;> rw [h1] <;> exact ⟨by simp, by simp⟩
  · rw [if_pos h0]
    exact ⟨by simp, by simp⟩
theorem within_range {most why : Int} {q : St} (hm : 0 ≤ most) : 0 ≤ (withinO most why q).1 ∧ (withinO most why q).1 ≤ most := by
  unfold withinO
  split
  · exact ⟨by simp, by simpa using hm⟩
  · omega
theorem within_ok {most why : Int} {q : St} (hw : why ≠ 0) (h : (withinO most why q).2.err = 0) : withinO most why q = numO q := by
  unfold withinO at h ⊢
  split
  · rename_i h1
    rw [if_pos h1] at h
    exact absurd h hw
  · rfl
theorem tells_within {most why : Int} (hw : why ≠ 0) : Tells (withinO most why) (fun n => byt.sev (byt.tf n)) := fun q h => by
  have e := within_ok hw h
  rw [e] at h ⊢
  exact tells_num q h
theorem nat_back {most why : Int} {q : St} (hm : 0 ≤ most) : (((withinO most why q).1.toNat : Nat) : Int) = (withinO most why q).1 := Int.toNat_of_nonneg (within_range hm).1
theorem text_tells : Tells textO (fun s => byt.bl (byt.putO s).1) := fun q h => by
  have h0 := stops_err stops_text h
  unfold textO at h ⊢
  rw [if_neg (by simp [h0])] at h ⊢
  simp only at h ⊢
  unfold byt.textO at h ⊢
  by_cases c1 : (byt.take (byt.bl q.rest)).2.2 = 0
  · rw [if_neg (by simp [c1])] at h ⊢
    by_cases c2 : (byt.take (byt.bl q.rest)).1 < 0
    · rw [if_pos c2] at h; exact absurd h (by decide)
    · rw [if_neg c2] at h ⊢
      by_cases c3 : 65536 < (byt.take (byt.bl q.rest)).1
      · rw [if_pos c3] at h; exact absurd h (by decide)
      · rw [if_neg c3] at h ⊢
        by_cases c4 : q.rest.size < (byt.take (byt.bl q.rest)).2.1 + (byt.take (byt.bl q.rest)).1.toNat
        · rw [if_pos c4] at h; exact absurd h (by decide)
        · rw [if_neg c4]
          obtain ⟨u, t, h1, h2, h3⟩ := byt.take_ok c1
          rw [h2] at c2 c3 c4 ⊢
          simp only at c2 c3 c4 ⊢
          obtain ⟨m, hm⟩ : ∃ m : Nat, (byt.fo u).toNat = m := ⟨_, rfl⟩
          have hm2 : byt.fo u = (m : Int) := by omega
          rw [hm] at c4 ⊢
          have hl : (byt.bl q.rest).length = q.rest.size := byt.bl_length _
          have hk : (byt.sev u).length + m ≤ q.rest.size := by omega
          have hsz : (q.rest.extract (byt.sev u).length ((byt.sev u).length + m)).size = m := by simp; omega
          have hu : byt.tf (m : Int) = u := by rw [← hm2, byt.tf_fo]
          rw [bl_rest]
          unfold byt.putO
          rw [if_neg (by rw [hsz]; omega), hsz, hu]
          simp only
          have e1 : byt.bl (byt.txt (byt.sev u) ++ q.rest.extract (byt.sev u).length ((byt.sev u).length + m)) = byt.sev u ++ byt.bl (q.rest.extract (byt.sev u).length ((byt.sev u).length + m)) := by
            unfold byt.bl
            rw [ByteArray.data_append, Array.toList_append]
            rfl
          rw [e1, byt.bl_cut, Nat.add_sub_cancel_left, List.append_assoc]
          have e2 : (byt.bl q.rest).drop ((byt.sev u).length + m) = ((byt.bl q.rest).drop (byt.sev u).length).drop m := by rw [List.drop_drop]
          rw [e2, List.take_append_drop]
          conv => lhs; rw [h1]
          conv => rhs; rw [h1]
          simp
  · rw [if_pos c1] at h
    simp only at h
    exact absurd h c1
theorem flat_cons (n : Int) (l : List Int) : byt.flat (n :: l) = byt.sev (byt.tf n) ++ byt.flat l := rfl
theorem flat_append (l m : List Int) : byt.flat (l ++ m) = byt.flat l ++ byt.flat m := by simp [byt.flat]
theorem tells_row {α : Type} {f : St → α × St} {b : α → List UInt8} (hs : Stops f) (hf : Tells f b) : ∀ n, Tells (rowO f n) (fun l => l.flatMap b)
  | 0 => fun q h => by simp [rowO]
  | n + 1 => fun q h => by
    rw [rowO] at h ⊢
    have h1 := tells_row hs hf n (f q).2 h
    have h2 := hf q (stops_err (stops_row hs n) h)
    simp only at h1 ⊢
    rw [h2, h1, List.flatMap_cons, List.append_assoc]
theorem tells_nums : ∀ n, Tells (rowO numO n) (fun l => byt.flat l) := fun n q h => tells_row stops_num tells_num n q h
theorem flat_exNs (l : List Ex) : byt.flat (exNs l) = l.flatMap fun x => byt.flat (exN x) := by
  induction l with
  | nil => rw [exNs_nil]; rfl
  | cons x l ih => rw [exNs_cons, flat_append, ih]; rfl
theorem tells_expr : ∀ l, 1 ≤ l → Tells (exprO l) (fun x => byt.flat (exN x))
  | 0, h => absurd h (by omega)
  | l + 1, _ => fun q h => by
    have hm : (0 : Int) ≤ if l = 0 then 0 else 3 := by split <;> omega
    rw [exprO] at h ⊢
    simp only at h ⊢
    obtain ⟨q1, e1⟩ : ∃ q1, (withinO 255 2 q).2 = q1 := ⟨_, rfl⟩
    have r1 := nat_back (most := 255) (why := 2) (q := q) (by omega)
    have t1 := tells_within (most := 255) (why := 2) (by decide) q
    rw [e1] at h t1 ⊢
    obtain ⟨q2, e2⟩ : ∃ q2, (numO q1).2 = q2 := ⟨_, rfl⟩
    have t2 := tells_num q1
    rw [e2] at h t2 ⊢
    obtain ⟨many, em⟩ : ∃ m : Int, (if l = 0 then 0 else 3) = m := ⟨_, rfl⟩
    rw [em] at h hm ⊢
    obtain ⟨q3, e3⟩ : ∃ q3, (withinO many 3 q2).2 = q3 := ⟨_, rfl⟩
    have r3 := nat_back (most := many) (why := 3) (q := q2) hm
    have g3 := within_range (most := many) (why := 3) (q := q2) hm
    have t3 := tells_within (most := many) (why := 3) (by decide) q2
    rw [e3] at h t3 ⊢
    have h3 : q3.err = 0 := stops_err (stops_row (stops_expr l) _) h
    have h2 : q2.err = 0 := stops_err (stops_within hm) (by rw [e3]; exact h3)
    have h1 : q1.err = 0 := stops_err stops_num (by rw [e2]; exact h2)
    rw [t1 h1, t2 h2, t3 h3, exN_eq]
    simp only [Ex.op, Ex.n, Ex.args, flat_cons, rowO_len]
    rw [r1, r3, flat_exNs]
    have t4 : byt.bl q3.rest = ((rowO (exprO l) (withinO many 3 q2).1.toNat q3).1.flatMap fun x => byt.flat (exN x)) ++ byt.bl (rowO (exprO l) (withinO many 3 q2).1.toNat q3).2.rest := by
      by_cases hl : l = 0
      · rw [if_pos hl] at em
        have : (withinO many 3 q2).1.toNat = 0 := by omega
        rw [this]
        simp [rowO]
      · exact tells_row (stops_expr l) (tells_expr l (by omega)) _ q3 h
    rw [t4]
    simp only [List.append_assoc]
theorem bl_append (a b : ByteArray) : byt.bl (a ++ b) = byt.bl a ++ byt.bl b := by
  unfold byt.bl
  rw [ByteArray.data_append, Array.toList_append]
theorem bl_txt (l : List UInt8) : byt.bl (byt.txt l) = l := by simp [byt.bl, byt.txt]
theorem tells_node : Tells nodeO (fun nd => byt.bl (nodeB nd)) := fun q h => by
  unfold nodeO at h ⊢
  simp only at h ⊢
  obtain ⟨q1, e1⟩ : ∃ q1, (headO q).2 = q1 := ⟨_, rfl⟩
  rw [e1] at h ⊢
  obtain ⟨q2, e2⟩ : ∃ q2, (insO q1).2 = q2 := ⟨_, rfl⟩
  rw [e2] at h ⊢
  have h2 : q2.err = 0 := stops_err (stops_expr 17) h
  have h1 : q1.err = 0 := stops_err stops_ins (by rw [e2]; exact h2)
  have tx := tells_expr 17 (by omega) q2 h
  unfold insO at e2 ⊢
  have r3 := nat_back (most := 12) (why := 3) (q := q1) (by omega)
  have t3 := tells_within (most := 12) (why := 3) (by decide) q1
  obtain ⟨q3, e3⟩ : ∃ q3, (withinO 12 3 q1).2 = q3 := ⟨_, rfl⟩
  rw [e3] at e2 t3 ⊢
  have h3 : q3.err = 0 := stops_err (stops_row stops_num _) (by rw [e2]; exact h2)
  have ti := tells_nums (withinO 12 3 q1).1.toNat q3 (by rw [e2]; exact h2)
  rw [e2] at ti
  unfold headO at e1 ⊢
  simp only at e1 ⊢
  obtain ⟨q5, e5⟩ : ∃ q5, (textO q).2 = q5 := ⟨_, rfl⟩
  rw [e5] at e1 ⊢
  have r6 := nat_back (most := 255) (why := 2) (q := q5) (by omega)
  have t6 := tells_within (most := 255) (why := 2) (by decide) q5
  obtain ⟨q6, e6⟩ : ∃ q6, (withinO 255 2 q5).2 = q6 := ⟨_, rfl⟩
  rw [e6] at e1 t6 ⊢
  have t7 := tells_num q6
  rw [e1] at t7
  have h6 : q6.err = 0 := stops_err stops_num (by rw [e1]; exact h1)
  have h5 : q5.err = 0 := stops_err (stops_within (most := 255) (why := 2) (by omega)) (by rw [e6]; exact h6)
  have t5 := text_tells q (by rw [e5]; exact h5)
  rw [e5] at t5
  unfold nodeB nodeN
  simp only [bl_append, bl_txt]
  rw [t5, t6 h6, t7 h1, t3 h3, ti, tx]
  simp only [List.cons_append, flat_cons, flat_append, rowO_len, r3, r6, List.append_assoc]
theorem bl_nodesB (l : List Nd) : byt.bl (nodesB l) = l.flatMap fun nd => byt.bl (nodeB nd) := by
  induction l with
  | nil => rfl
  | cons nd l ih => rw [nodesB, bl_append, ih]; rfl
theorem tells_job : Tells jobO (fun j => byt.bl (jobB j.1 j.2)) := fun q h => by
  unfold jobO at h ⊢
  simp only at h ⊢
  have t1 := tells_num q
  obtain ⟨q1, e1⟩ : ∃ q1, (numO q).2 = q1 := ⟨_, rfl⟩
  rw [e1] at h t1 ⊢
  unfold nodesO at h ⊢
  have r2 := nat_back (most := 12) (why := 3) (q := q1) (by omega)
  have t2 := tells_within (most := 12) (why := 3) (by decide) q1
  obtain ⟨q2, e2⟩ : ∃ q2, (withinO 12 3 q1).2 = q2 := ⟨_, rfl⟩
  rw [e2] at h t2 ⊢
  have h2 : q2.err = 0 := stops_err (stops_row stops_node _) h
  have h1 : q1.err = 0 := stops_err (stops_within (most := 12) (why := 3) (by omega)) (by rw [e2]; exact h2)
  have t3 := tells_row stops_node tells_node (withinO 12 3 q1).1.toNat q2 h
  unfold jobB
  rw [bl_append, bl_txt, bl_nodesB, t1 h1, t2 h2, t3]
  simp only [flat_cons, rowO_len, r2, List.append_assoc]
  rfl
theorem bl_inj {a b : ByteArray} (h : byt.bl a = byt.bl b) : a = b := by
  apply ByteArray.ext
  exact Array.toList_inj.1 h
/-- The job's bytes are all that was read, just if nothing is left. -/
theorem job_again {s : ByteArray} (h : (jobO ⟨s, 0⟩).2.err = 0) : jobB (jobO ⟨s, 0⟩).1.1 (jobO ⟨s, 0⟩).1.2 = s ↔ (jobO ⟨s, 0⟩).2.rest.size = 0 := by
  have t := tells_job ⟨s, 0⟩ h
  simp only at t
  rw [← byt.bl_nil]
  constructor
  · intro e
    rw [e] at t
    have := congrArg List.length t
    rw [List.length_append] at this
    exact List.eq_nil_of_length_eq_zero (by omega)
  · intro e
    rw [e, List.append_nil] at t
    exact (bl_inj t).symm
end Go.Proofs.YtnelfokfgnikfaaDoor.pk

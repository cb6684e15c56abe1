/- Plain facts on what changelingref12.May asks. Plain facts: what changelingref14 reads, and what pack reads, are the same job or the same error. Plain facts: how much a job holds that was read without an error. -/
import Derived.Test.YtnelfokfgnikfaaDoorRfI
import Derived.Test.YtnelfokfgnikfaaDoorMJd
import Derived.Test.YtnelfokfgnikfaaDoorPkP
import Derived.Test.YtnelfokfgnikfaaDoorPkQ
section
namespace Go.Proofs.YtnelfokfgnikfaaDoor.rf
set_option linter.unusedSimpArgs false
set_option linter.unusedVariables false
open Go.RowKit nam exp jb

/-- The parts of all. -/
def partsN : List Nd → Nat
  | [] => 0
  | nd :: l => nd.x.size + partsN l
theorem partsN_take : ∀ (l : List Nd) (k : Nat) (hk : k < l.length), partsN (l.take (k + 1)) = partsN (l.take k) + (l[k]).x.size ∧ partsN (l.take (k + 1)) ≤ partsN l
  | [], k, hk => by simp at hk
  | x :: l, 0, hk => by simp [partsN]
  | x :: l, k + 1, hk => by
    have := partsN_take l k (by simpa using hk)
    simp only [List.take_succ_cons, partsN, List.getElem_cons_succ]
    omega
theorem partsN_bound {M : Nat} : ∀ (l : List Nd) (h : ∀ nd ∈ l, nd.x.size ≤ M) (k : Nat), partsN (l.take k) ≤ k * M
  | [], h, k => by simp [partsN]
  | x :: l, h, 0 => by simp [partsN]
  | x :: l, h, k + 1 => by
    have h1 := partsN_bound l (fun nd hn => h nd (by simp [hn])) k
    have h2 := h x (by simp)
    simp only [List.take_succ_cons, partsN]
    rw [Nat.succ_mul]
    omega
theorem room_parts : ∀ (l : List Nd) (r : Int), (0 ≤ roomN l r ↔ (partsN l : Int) ≤ r)
  | [], r => by simp [roomN, partsN]
  | nd :: l, r => by
    rw [room_cons, room_parts l]
    unfold leave
    simp only [partsN]
    split <;> omega
theorem bounded_iff {par : Int} {l : List Nd} : boundedB par l = true ↔ 1 ≤ par ∧ par ≤ 4 ∧ 2 ≤ l.length ∧ l.length ≤ 12 ∧ partsN l ≤ 1000 := by
  unfold boundedB
  have := room_parts l 1000
  rw [Bool.and_eq_true, decide_eq_true_eq, decide_eq_true_eq, this]
  omega
theorem no_bound {par : Int} {l : List Nd} (h : ¬ (1 ≤ par ∧ par ≤ 4 ∧ 2 ≤ l.length ∧ l.length ≤ 12 ∧ partsN l ≤ 1000)) : (mayO par l).2 ≠ 0 := by
  have hb : boundedB par l = false := by
    cases hb : boundedB par l with
    | false => rfl
    | true => exact absurd (bounded_iff.1 hb) h
  unfold mayO
  rw [if_pos hb]
  simp
theorem no_err {par : Int} {l : List Nd} {k : Nat} (hk : k < l.length) (h : errAt l k ≠ 0) : (mayO par l).2 ≠ 0 := by
  have ha : (aloneO l).2 ≠ 0 := fun h0 => h (firstErr_ok h0 k (Nat.zero_le _) (by omega))
  unfold mayO
  split
  · simp
  · first | exact ha | (rw [if_pos ha]; exact ha)
theorem no_shape {par : Int} {l : List Nd} {k : Nat} (hk : k < l.length) (h : shapeB l k l[k] = true) : (mayO par l).2 ≠ 0 := by
  have hs : shapeAt l k ≠ 0 := by rw [shapeAt_eq hk, if_pos h]; decide
  have ha : (togetherO l).2 ≠ 0 := fun h0 => hs (firstErr_ok h0 k (Nat.zero_le _) (by omega))
  unfold mayO
  split
  · simp
  split
  · assumption
  · exact ha
theorem yes_may {par : Int} {l : List Nd} (hb : boundedB par l = true) (h1 : ∀ k, k < l.length → errAt l k = 0) (h2 : ∀ k (hk : k < l.length), shapeB l k l[k] = false) : (mayO par l).2 = 0 := by
  have ha : aloneO l = (0, 0) := firstErr_all fun j _ hj => h1 j (by omega)
  have ht : togetherO l = (0, 0) := firstErr_all fun j _ hj => by rw [shapeAt_eq (by omega), if_neg (by rw [h2 j (by omega)]; simp)]
  unfold mayO
  rw [if_neg (by rw [hb]; simp), if_neg (by rw [ha]; simp), ht]
theorem err_may {l : List Nd} {k : Nat} (hk : k < l.length) (h : mayB l[k] k = false) : errAt l k ≠ 0 := by
  rw [errAt_eq hk, if_pos h]; decide
theorem find_iff {l : List Nd} {uid : ByteArray} : 0 ≤ findI l uid ↔ ∃ nd ∈ l, nd.uid = uid := by
  unfold findI
  rw [firstI_lt]
  simp [named]
theorem err_uid {l : List Nd} {k i : Nat} (hk : k < l.length) (hi : i < k) (h : (l[i]'(by omega)).uid = l[k].uid) : errAt l k ≠ 0 := by
  rw [errAt_eq hk]
  split
  · decide
  · rw [if_pos (find_iff.2 ⟨l[i]'(by omega), List.mem_take_iff_getElem.2 ⟨i, by omega, rfl⟩, h⟩)]
    decide
theorem err_zero {l : List Nd} {k : Nat} (hk : k < l.length) (h1 : mayB l[k] k = true) (h2 : ∀ (i : Nat) (hi : i < l.length), i < k → l[i].uid ≠ l[k].uid) : errAt l k = 0 := by
  rw [errAt_eq hk, if_neg (by rw [h1]; simp), if_neg]
  intro h
  obtain ⟨nd, hm, he⟩ := find_iff.1 h
  obtain ⟨i, hi, rfl⟩ := List.mem_take_iff_getElem.1 hm
  exact h2 i (by omega) (by omega) he
theorem err_ok {l : List Nd} (h : ∀ k, k < l.length → errAt l k = 0) : (aloneO l).2 = 0 := by
  have ha : aloneO l = (0, 0) := firstErr_all fun j _ hj => h j (by omega)
  rw [ha]
theorem shape_iff {l : List Nd} {k : Nat} {nd : Nd} : shapeB l k nd = true ↔ (¬ (nd.kind = 1 ↔ k = 0)) ∨ (¬ (nd.kind = 9 ↔ k + 1 = l.length)) ∨ (¬ k + 1 = l.length ∧ ¬ (1 ≤ (readersI l k).length ∧ (readersI l k).length ≤ 3)) ∨ (nd.kind = 4 ∧ 2 ≤ flatsN (l.take k)) ∨ 64 < wayOf nd (waysL l k) := by
  unfold shapeB
  simp only [Bool.or_eq_true, Bool.and_eq_true, Bool.not_eq_true', bne_iff_ne, ne_eq, decide_eq_decide, decide_eq_true_eq, decide_eq_false_iff_not, Bool.and_eq_false_iff]
  omega
theorem last_none {l : List Nd} {k : Nat} (h : ∀ j (hj : j < l.length), ∀ i ∈ l[j].ins, 0 ≤ i ∧ i < j) (hk : k + 1 = l.length) : (readersI l (k : Int)).length = 0 := by
  unfold readersI
  rw [placesI_len, List.length_eq_zero_iff, List.filter_eq_nil_iff]
  intro nd hm
  obtain ⟨j, hj, rfl⟩ := List.mem_iff_getElem.1 hm
  unfold reads
  intro hd
  have := h j hj _ (of_decide_eq_true hd)
  omega
theorem flats_take {l : List Nd} {k : Nat} (hk : k < l.length) : flatsN (l.take (k + 1)) = flatsN (l.take k) + if l[k].kind = 4 then 1 else 0 := by
  unfold flatsN
  rw [List.take_succ_eq_append_getElem hk, List.filter_append, List.length_append]
  congr 1
  by_cases h : l[k].kind = 4
  · rw [if_pos h, List.filter_cons_of_pos (by simp [flat, h])]; rfl
  · rw [if_neg h, List.filter_cons_of_neg (by simp [flat, h])]; rfl
end Go.Proofs.YtnelfokfgnikfaaDoor.rf
end
section
namespace Go.Proofs.YtnelfokfgnikfaaDoor.rf
set_option linter.unusedSimpArgs false
set_option linter.unusedVariables false
open Go.RowKit nam exp jb pk

def exprR : Nat → St → Ex × St
  | 0, q => (Ex.zero, if q.err ≠ 0 then q else ⟨q.rest, 3⟩)
  | l + 1, q =>
    (.mk (withinO 255 2 q).1.toNat (numO (withinO 255 2 q).2).1
      (rowO (exprR l) (withinO 3 3 (numO (withinO 255 2 q).2).2).1.toNat (withinO 3 3 (numO (withinO 255 2 q).2).2).2).1,
     (rowO (exprR l) (withinO 3 3 (numO (withinO 255 2 q).2).2).1.toNat (withinO 3 3 (numO (withinO 255 2 q).2).2).2).2)
/-- The same state, and without an error the same answer. -/
def Like {α : Type} (f g : St → α × St) : Prop := ∀ q, (f q).2 = (g q).2 ∧ ((g q).2.err = 0 → f q = g q)
theorem Like.refl {α : Type} (f : St → α × St) : Like f f := fun q => ⟨rfl, fun _ => rfl⟩
theorem exprR_err : ∀ (l : Nat) (q : St), q.err ≠ 0 → exprR l q = (Ex.zero, q)
  | 0, q, h => by rw [exprR, if_pos h]
  | l + 1, q, h => by
    rw [exprR]
    simp only [within_zero h (show (0 : Int) ≤ 255 by omega), stops_num q h, num_zero h, within_zero h (show (0 : Int) ≤ 3 by omega)]
    rfl
theorem stops_exprR (l : Nat) : Stops (exprR l) := fun q h => by rw [exprR_err l q h]
theorem row_like {α : Type} {f g : St → α × St} (h : Like f g) (hs : Stops g) : ∀ n, Like (rowO f n) (rowO g n)
  | 0 => fun q => ⟨rfl, fun _ => rfl⟩
  | n + 1 => fun q => by
    rw [rowO, rowO]
    obtain ⟨h1, h2⟩ := h q
    obtain ⟨h3, h4⟩ := row_like h hs n (g q).2
    rw [h1]
    refine ⟨h3, fun he => ?_⟩
    have h5 : (g q).2.err = 0 := stops_err (stops_row hs n) he
    rw [h4 he, h2 h5]
theorem num_bad {q : St} (h : (numO q).2.err ≠ 0) : (numO q).1 = 0 := by
  by_cases he : q.err = 0
  · unfold numO at h ⊢
    rw [if_neg (by simp [he])] at h ⊢
    simp only at h ⊢
    rcases byt.take_bad h with h1 | h1 <;> rw [h1]
  · exact num_zero he
theorem row_stop {n : Nat} {q : St} (hn : 1 ≤ n) (h : q.err = 0) : (rowO (exprR 0) n q).2 = ⟨q.rest, 3⟩ := by
  obtain ⟨k, rfl⟩ : ∃ k, n = k + 1 := ⟨n - 1, by omega⟩
  rw [rowO]
  have e : (exprR 0 q).2 = ⟨q.rest, 3⟩ := by rw [exprR, if_neg (by simp [h])]
  rw [e]
  exact stops_row (stops_exprR 0) k _ (by simp)
theorem exprR_like : ∀ l, 1 ≤ l → Like (exprR l) (exprO l)
  | 0, h => absurd h (by omega)
  | 1, _ => fun q => by
    rw [exprR, exprO]
    obtain ⟨m, hm⟩ : ∃ m, (withinO 255 2 q).1.toNat = m := ⟨_, rfl⟩
    obtain ⟨q1, hq1⟩ : ∃ q1, (withinO 255 2 q).2 = q1 := ⟨_, rfl⟩
    obtain ⟨n, hn⟩ : ∃ n, (numO q1).1 = n := ⟨_, rfl⟩
    obtain ⟨q2, hq2⟩ : ∃ q2, (numO q1).2 = q2 := ⟨_, rfl⟩
    simp only [hm, hq1, hn, hq2, if_true]
    obtain ⟨c, hc⟩ : ∃ c, (numO q2).1 = c := ⟨_, rfl⟩
    obtain ⟨q3, hq3⟩ : ∃ q3, (numO q2).2 = q3 := ⟨_, rfl⟩
    have e3 : withinO 3 3 q2 = if c < 0 ∨ 3 < c then (0, ⟨q3.rest, 3⟩) else (c, q3) := by
      unfold withinO; rw [hc, hq3]
      split
      · rfl
      · rw [← hc, ← hq3]
    have e0 : withinO 0 3 q2 = if c < 0 ∨ 0 < c then (0, ⟨q3.rest, 3⟩) else (c, q3) := by
      unfold withinO; rw [hc, hq3]
      split
      · rfl
      · rw [← hc, ← hq3]
    rw [e3, e0]
    by_cases h1 : c < 0 ∨ 3 < c
    · rw [if_pos h1, if_pos (by omega)]
      exact ⟨rfl, fun _ => rfl⟩
    · rw [if_neg h1]
      by_cases h2 : c = 0
      · rw [if_neg (by omega), h2]
        exact ⟨rfl, fun _ => rfl⟩
      · rw [if_pos (by omega)]
        have h3 : q3.err = 0 := by
          by_cases h4 : q3.err = 0
          · exact h4
          · exfalso
            have := num_bad (q := q2) (by rw [hq3]; exact h4)
            omega
        have h5 := row_stop (n := c.toNat) (q := q3) (by omega) h3
        refine ⟨?_, fun h => ?_⟩
        · show (rowO (exprR 0) c.toNat q3).2 = (rowO (exprO 0) (0 : Int).toNat ⟨q3.rest, 3⟩).2
          rw [h5]
          rfl
        · exact absurd h (show ¬ ((3 : Int) = 0) by decide)
  | l + 2, _ => fun q => by
    have hl := exprR_like (l + 1) (by omega)
    rw [exprR, exprO]
    simp only [Nat.add_eq_zero_iff, Nat.succ_ne_self, and_false, if_false, show ¬ (l + 1 = 0) by omega]
    obtain ⟨h1, h2⟩ := row_like hl (stops_expr (l + 1)) (withinO 3 3 (numO (withinO 255 2 q).2).2).1.toNat (withinO 3 3 (numO (withinO 255 2 q).2).2).2
    refine ⟨h1, fun he => ?_⟩
    rw [h2 he]
def nodeR (q : St) : Nd × St :=
  (⟨(headO q).1.1, (headO q).1.2.1, (insO (headO q).2).1, (exprR 17 (insO (headO q).2).2).1, (headO q).1.2.2⟩, (exprR 17 (insO (headO q).2).2).2)
theorem nodeR_like : Like nodeR nodeO := fun q => by
  unfold nodeR nodeO
  obtain ⟨h1, h2⟩ := exprR_like 17 (by omega) (insO (headO q).2).2
  refine ⟨h1, fun he => ?_⟩
  rw [h2 he]
def nodesR (q : St) : List Nd × St := rowO nodeR (withinO 12 3 q).1.toNat (withinO 12 3 q).2
def jobR (q : St) : (Int × List Nd) × St := (((numO q).1, (nodesR (numO q).2).1), (nodesR (numO q).2).2)
theorem jobR_like : Like jobR jobO := fun q => by
  unfold jobR jobO nodesR nodesO
  obtain ⟨h1, h2⟩ := row_like nodeR_like stops_node (withinO 12 3 (numO q).2).1.toNat (withinO 12 3 (numO q).2).2
  refine ⟨h1, fun he => ?_⟩
  rw [h2 he]
theorem stops_nodeR : Stops nodeR := fun q h => by rw [(nodeR_like q).1]; exact stops_node q h
/-- Where an error has come, the nodes that are still to be read change nothing. -/
theorem nodes_stop {k n : Nat} {q : St} (hk : k ≤ n) (h : (rowO nodeR k q).2.err ≠ 0) : (rowO nodeR n q).2 = (rowO nodeR k q).2 := by
  induction n with
  | zero => have : k = 0 := by omega
            rw [this]
  | succ n ih =>
    by_cases hkn : k = n + 1
    · rw [hkn]
    · rw [rowO_snoc]
      show (nodeR (rowO nodeR n q).2).2 = _
      rw [ih (by omega)]
      exact stops_nodeR _ h
/-- What changelingref14.Take answers. -/
def takeR (s : ByteArray) : (Int × List Nd) × Int :=
  if (jobR ⟨s, 0⟩).2.err ≠ 0 then ((0, []), (jobR ⟨s, 0⟩).2.err)
  else if (mayO (jobR ⟨s, 0⟩).1.1 (jobR ⟨s, 0⟩).1.2).2 ≠ 0 ∨ (jobR ⟨s, 0⟩).2.rest.size ≠ 0 then ((0, []), 2) else ((jobR ⟨s, 0⟩).1, 0)
theorem takeR_eq (s : ByteArray) : takeR s = takeO s := by
  unfold takeR takeO
  obtain ⟨h1, h2⟩ := jobR_like ⟨s, 0⟩
  rw [h1]
  by_cases he : (jobO ⟨s, 0⟩).2.err = 0
  · rw [h2 he]
  · rw [if_pos he, if_pos he]
end Go.Proofs.YtnelfokfgnikfaaDoor.rf
end
section
namespace Go.Proofs.YtnelfokfgnikfaaDoor.rf
set_option linter.unusedSimpArgs false
set_option linter.unusedVariables false
open Go.RowKit nam exp jb pk

theorem sev_one (u : Nat) : 1 ≤ (byt.sev u).length := by
  by_cases h : u < 128
  · rw [byt.sev_small h]; simp
  · rw [byt.sev_big h]; simp
theorem flat_len : ∀ l : List Int, l.length ≤ (byt.flat l).length
  | [] => by simp
  | n :: l => by
    have h1 := sev_one (byt.tf n)
    have h2 := flat_len l
    rw [flat_cons, List.length_append, List.length_cons]
    omega
theorem node_big (nd : Nd) : nd.x.size ≤ (byt.bl (nodeB nd)).length ∧ nd.ins.length ≤ (byt.bl (nodeB nd)).length := by
  unfold nodeB nodeN
  rw [bl_append, bl_txt, List.length_append]
  have h1 := flat_len ((nd.kind : Int) :: nd.n :: (nd.ins.length : Int) :: nd.ins ++ exN nd.x)
  have h2 := exN_len nd.x
  simp only [List.cons_append, List.length_cons, List.length_append] at h1 ⊢
  omega
theorem mem_flatMap_len {α : Type} {f : α → List UInt8} : ∀ {l : List α} {x : α}, x ∈ l → (f x).length ≤ (l.flatMap f).length
  | [], x, h => by cases h
  | y :: l, x, h => by
    rw [List.flatMap_cons, List.length_append]
    rcases List.mem_cons.1 h with rfl | h1
    · omega
    · have := mem_flatMap_len (f := f) h1; omega
theorem job_small {s : ByteArray} (hs : s.size ≤ 1000000) (h : (jobO ⟨s, 0⟩).2.err = 0) : (jobO ⟨s, 0⟩).1.2.length ≤ 12 ∧ ∀ nd ∈ (jobO ⟨s, 0⟩).1.2, nd.uid.size ≤ 1000000 ∧ nd.ins.length ≤ 1000000 ∧ nd.x.size ≤ 1000000 := by
  refine ⟨?_, fun nd hn => ?_⟩
  · unfold jobO nodesO
    rw [rowO_len]
    have := within_range (most := 12) (why := 3) (q := (numO ⟨s, 0⟩).2) (by omega)
    omega
  · have h1 := (job_fits ⟨s, 0⟩ nd hn).2
    have t := tells_job ⟨s, 0⟩ h
    simp only at t
    have hl := congrArg List.length t
    rw [byt.bl_length, List.length_append] at hl
    unfold jobB at hl
    rw [bl_append, bl_nodesB, List.length_append] at hl
    have h2 := mem_flatMap_len (f := fun nd => byt.bl (nodeB nd)) hn
    have h3 := node_big nd
    refine ⟨by omega, by omega, by omega⟩
theorem ins_small : ∀ (q : St), ∀ nd ∈ (jobO q).1.2, nd.ins.length ≤ 12 := by
  intro q
  unfold jobO nodesO
  refine rowO_all (P := fun (nd : Nd) => nd.ins.length ≤ 12) (fun q => ?_) _ _
  unfold nodeO insO
  simp only [rowO_len]
  have := within_range (most := 12) (why := 3) (q := (headO q).2) (by omega)
  omega
end Go.Proofs.YtnelfokfgnikfaaDoor.rf
end

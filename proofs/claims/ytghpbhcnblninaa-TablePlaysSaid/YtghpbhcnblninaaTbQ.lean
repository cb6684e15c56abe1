/- Plain: what bytes begin with, number by number; the table whose bytes they are. No program in this text. -/
import Derived.Test.YtghpbhcnblninaaTbG
namespace Go.Proofs.Ytghpbhcnblninaa.tbl
set_option linter.unusedSimpArgs false
set_option linter.unusedVariables false
open Go.RowKit
open Go.Proofs.Ytghpbhcnblninaa.grp (gof gof_in fits)
open Go.Proofs.Ytghpbhcnblninaa.byt (sev tf fo flat)

/-- What is left to be read, and the first error. -/
abbrev St := List UInt8 × Int
def numO (s : St) : Int × St := if s.2 ≠ 0 then (0, s) else ((byt.take s.1).1, (s.1.drop (byt.take s.1).2.1, (byt.take s.1).2.2))
def withinO (most : Int) (s : St) : Int × St := if (numO s).1 < 0 ∨ most < (numO s).1 then (0, ((numO s).2.1, 21)) else numO s
def numsR : Nat → St → List Int × St
  | 0, s => ([], s)
  | m + 1, s => ((numO s).1 :: (numsR m (numO s).2).1, (numsR m (numO s).2).2)
def cellO (s : St) : Cl × St :=
  (((numO s).1, (numsR (withinO 16 (numO s).2).1.toNat (withinO 16 (numO s).2).2).1), (numsR (withinO 16 (numO s).2).1.toNat (withinO 16 (numO s).2).2).2)
/-- Whether a key may not come behind these. -/
def badB (L : Rows) (k : Int) : Bool := (match L.getLast? with | none => false | some p => !lessB p.1 k) || decide (40 ≤ cnt L (gof k))
def goO : Nat → Rows → St → Int × Rows × St
  | 0, L, s => (0, L, s)
  | m + 1, L, s =>
    if (cellO (numO s).2).2.2 ≠ 0 then ((cellO (numO s).2).2.2, [], (cellO (numO s).2).2)
    else if badB L (numO s).1 = true then (21, [], (cellO (numO s).2).2)
    else goO m (L ++ [((numO s).1, (cellO (numO s).2).1)]) (cellO (numO s).2).2
def endO (r : Int × Rows × St) : Int × Rows := if r.1 ≠ 0 then (r.1, []) else if r.2.2.2 ≠ 0 then (r.2.2.2, []) else if r.2.2.1 ≠ [] then (21, []) else (0, r.2.1)
def takeT (l : List UInt8) : Int × Rows := endO (goO (withinO 320 (l, 0)).1.toNat [] (withinO 320 (l, 0)).2)
theorem num_bad {s : St} (h : s.2 ≠ 0) : numO s = (0, s) := by unfold numO; rw [if_pos h]
theorem num_ok {s : St} (h : s.2 = 0) : numO s = ((byt.take s.1).1, (s.1.drop (byt.take s.1).2.1, (byt.take s.1).2.2)) := by unfold numO; rw [if_neg (by simp [h])]
theorem num_fits (s : St) : fits (numO s).1 := by
  by_cases h : s.2 = 0
  · rw [num_ok h]
    by_cases h2 : (byt.take s.1).2.2 = 0
    · have := byt.take_size h2; exact ⟨this.2.2.2.1, this.2.2.2.2⟩
    · rcases byt.take_bad h2 with e | e <;> (rw [e]; exact ⟨by simp, by simp⟩)
  · rw [num_bad h]; exact ⟨by simp, by simp⟩
theorem num_zero {s : St} (h : (numO s).2.2 ≠ 0) : (numO s).1 = 0 := by
  by_cases h1 : s.2 = 0
  · rw [num_ok h1] at h ⊢
    rcases byt.take_bad h with e | e <;> rw [e]
  · rw [num_bad h1]
theorem num_stick {s : St} (h : (numO s).2.2 = 0) : s.2 = 0 := by
  by_cases h1 : s.2 = 0
  · exact h1
  · rw [num_bad h1] at h; exact absurd h h1
theorem num_more {s : St} (h : (numO s).2.2 = 0) : s.1 = sev (tf (numO s).1) ++ (numO s).2.1 := by
  have h1 := num_stick h
  rw [num_ok h1] at h ⊢
  obtain ⟨u, t, e1, e2, e3⟩ := byt.take_ok h
  simp only [e2, byt.tf_fo]
  conv => lhs; rw [e1]
  rw [e1]; simp
theorem num_put {n : Int} (hn : fits n) (t : List UInt8) : numO (sev (tf n) ++ t, 0) = (n, (t, 0)) := by
  rw [num_ok rfl]
  simp only [byt.take_sev t (byt.tf_lt hn.1 hn.2), byt.fo_tf]
  simp
theorem within_in {most : Int} (hm : 0 ≤ most) (s : St) : 0 ≤ (withinO most s).1 ∧ (withinO most s).1 ≤ most := by
  unfold withinO
  split
  · exact ⟨by simp, hm⟩
  · omega
theorem within_stick {most : Int} {s : St} (h : (withinO most s).2.2 = 0) : (numO s).2.2 = 0 ∧ withinO most s = numO s := by
  unfold withinO at *
  split at h
  · cases h
  · rename_i hc; rw [if_neg hc]; exact ⟨h, rfl⟩
theorem within_put {most n : Int} (hn : fits n) (h0 : 0 ≤ n) (h1 : n ≤ most) (t : List UInt8) : withinO most (sev (tf n) ++ t, 0) = (n, (t, 0)) := by
  unfold withinO
  rw [num_put hn, if_neg (by simp only; omega)]
theorem nums_snoc : ∀ (k : Nat) (s : St), numsR (k + 1) s = ((numsR k s).1 ++ [(numO (numsR k s).2).1], (numO (numsR k s).2).2)
  | 0, s => rfl
  | k + 1, s => by
    have h := nums_snoc k (numO s).2
    show ((numO s).1 :: (numsR (k + 1) (numO s).2).1, (numsR (k + 1) (numO s).2).2) = _
    rw [h]
    rfl
theorem nums_len : ∀ (k : Nat) (s : St), (numsR k s).1.length = k
  | 0, s => rfl
  | k + 1, s => by show ((numsR k (numO s).2).1.length + 1) = _; rw [nums_len k]
theorem nums_fits : ∀ (k : Nat) (s : St), ∀ x ∈ (numsR k s).1, fits x
  | 0, s => by simp [numsR]
  | k + 1, s => fun x hx => by
    rcases List.mem_cons.1 (show x ∈ (numO s).1 :: (numsR k (numO s).2).1 from hx) with rfl | hx
    · exact num_fits s
    · exact nums_fits k _ x hx
theorem nums_stick : ∀ {k : Nat} {s : St}, (numsR k s).2.2 = 0 → s.2 = 0 ∧ s.1 = flat (numsR k s).1 ++ (numsR k s).2.1
  | 0, s, h => ⟨h, by simp [numsR, flat]⟩
  | k + 1, s, h => by
    have h : (numsR k (numO s).2).2.2 = 0 := h
    obtain ⟨h1, h2⟩ := nums_stick h
    refine ⟨num_stick h1, ?_⟩
    rw [num_more h1, h2]
    show _ = flat ((numO s).1 :: (numsR k (numO s).2).1) ++ (numsR k (numO s).2).2.1
    simp [flat, List.append_assoc]
theorem nums_put : ∀ {l : List Int} (hl : ∀ n ∈ l, fits n) (t : List UInt8), numsR l.length (flat l ++ t, 0) = (l, (t, 0))
  | [], _, t => rfl
  | n :: l, hl, t => by
    have e : flat (n :: l) ++ t = sev (tf n) ++ (flat l ++ t) := by simp [flat]
    show ((numO (flat (n :: l) ++ t, 0)).1 :: (numsR l.length (numO (flat (n :: l) ++ t, 0)).2).1, (numsR l.length (numO (flat (n :: l) ++ t, 0)).2).2) = _
    rw [e, num_put (hl n (List.mem_cons_self ..)), nums_put (fun x hx => hl x (List.mem_cons_of_mem _ hx)) t]
theorem cell_fine (s : St) : Fine (cellO s).1 := by
  refine ⟨num_fits s, nums_fits _ _, ?_⟩
  show (numsR _ _).1.length ≤ 16
  rw [nums_len]
  have := within_in (most := 16) (by omega) (numO s).2
  omega
theorem cell_stick {s : St} (h : (cellO s).2.2 = 0) : s.2 = 0 ∧ s.1 = flat ((cellO s).1.1 :: ((cellO s).1.2.length : Int) :: (cellO s).1.2) ++ (cellO s).2.1 := by
  obtain ⟨h1, h2⟩ := nums_stick h
  obtain ⟨h3, h4⟩ := within_stick h1
  have h5 := num_stick h3
  refine ⟨num_stick h5, ?_⟩
  have hin := within_in (most := 16) (by omega) (numO s).2
  have e : ((cellO s).1.2.length : Int) = (numO (numO s).2).1 := by
    show ((numsR _ _).1.length : Int) = _
    rw [nums_len, ← h4]; omega
  rw [e]
  show s.1 = flat ((numO s).1 :: (numO (numO s).2).1 :: (numsR _ _).1) ++ (numsR _ _).2.1
  rw [num_more h5, num_more h3]
  rw [h4] at h2 ⊢
  conv => lhs; rw [h2]
  simp [flat, List.append_assoc]
theorem cell_put {c : Cl} (hc : Fine c) (t : List UInt8) : cellO (flat (c.1 :: (c.2.length : Int) :: c.2) ++ t, 0) = (c, (t, 0)) := by
  have e : flat (c.1 :: (c.2.length : Int) :: c.2) ++ t = sev (tf c.1) ++ (sev (tf (c.2.length : Int)) ++ (flat c.2 ++ t)) := by simp [flat]
  have hf := hc.few
  unfold cellO
  rw [e, num_put hc.acc, within_put (most := 16) (n := (c.2.length : Int)) ⟨by omega, by omega⟩ (by omega) (by omega)]
  simp only [Int.toNat_natCast]
  rw [nums_put hc.all]
theorem put_last {L : Rows} {k : Int} {c : Cl} (h : ∀ p ∈ L, lessB p.1 k = true) : putL L k c = L ++ [(k, c)] := by
  induction L with
  | nil => rfl
  | cons p L ih =>
    unfold putL
    rw [if_pos (h p (List.mem_cons_self ..)), ih (fun q hq => h q (List.mem_cons_of_mem _ hq))]
    rfl
theorem bad_not {L : Rows} (hL : Ord L) {k : Int} (h : badB L k = false) : (∀ p ∈ L, lessB p.1 k = true) ∧ cnt L (gof k) < 40 := by
  unfold badB at h
  rw [Bool.or_eq_false_iff] at h
  obtain ⟨h1, h2⟩ := h
  refine ⟨fun p hp => ?_, by simpa using h2⟩
  cases hl : L.getLast? with
  | none => rw [List.getLast?_eq_none_iff.1 hl] at hp; cases hp
  | some q =>
    rw [hl] at h1
    have h1 : lessB q.1 k = true := by simpa using h1
    obtain ⟨M, rfl⟩ := List.getLast?_eq_some_iff.1 hl
    rcases List.mem_append.1 hp with hp | hp
    · exact less_trans ((List.pairwise_append.1 hL).2.2 p hp q (by simp)) h1
    · rw [List.mem_singleton.1 hp]; exact h1
theorem Good.last {L : Rows} (hL : Good L) {k : Int} {c : Cl} (hk : fits k) (hc : Fine c) (h : badB L k = false) : Good (L ++ [(k, c)]) ∧ putO L k c = (0, L ++ [(k, c)]) := by
  obtain ⟨h1, h2⟩ := bad_not hL.ord h
  have e := put_last (c := c) h1
  refine ⟨by rw [← e]; exact hL.put hk hc (fun _ => h2), ?_⟩
  unfold putO
  rw [if_neg (by have := hc.few; omega), if_neg (fun e => by have := e.2; omega), e]
theorem Good.bad {L : Rows} (hL : Good L) {k : Int} {c : Cl} (hc : Fine c) (h : ∀ p, L.getLast? = some p → lessB p.1 k = true) : badB L k = decide ((putO L k c).1 ≠ 0) := by
  have hall : ∀ p ∈ L, lessB p.1 k = true := fun p hp => by
    cases hl : L.getLast? with
    | none => rw [List.getLast?_eq_none_iff.1 hl] at hp; cases hp
    | some q =>
      have h1 := h q hl
      obtain ⟨M, rfl⟩ := List.getLast?_eq_some_iff.1 hl
      rcases List.mem_append.1 hp with hp | hp
      · exact less_trans ((List.pairwise_append.1 hL.ord).2.2 p hp q (by simp)) h1
      · rw [List.mem_singleton.1 hp]; exact h1
  have hn : look L k = none := look_none.2 (fun p hp => less_ne (hall p hp))
  have hb : (match L.getLast? with | none => false | some p => !lessB p.1 k) = false := by
    cases hl : L.getLast? with
    | none => rfl
    | some q => simp [h q hl]
  unfold badB putO
  rw [hb, if_neg (by have := hc.few; omega)]
  by_cases h4 : 40 ≤ cnt L (gof k)
  · rw [if_pos ⟨hn, h4⟩]; simp [h4]
  · rw [if_neg (fun e => h4 e.2)]; simp [h4]
theorem go_good : ∀ {m : Nat} {L : Rows} {s : St}, Good L → (goO m L s).1 = 0 → Good (goO m L s).2.1
  | 0, L, s, h, _ => h
  | m + 1, L, s, h, e => by
    unfold goO at e ⊢
    split
    · rename_i h1; rw [if_pos h1] at e; exact absurd e h1
    · rename_i h1
      rw [if_neg h1] at e
      split
      · rename_i h2; rw [if_pos h2] at e; cases e
      · rename_i h2
        rw [if_neg h2] at e
        exact go_good (h.last (num_fits s) (cell_fine _) (by simpa using h2)).1 e
def rowM (p : Int × Cl) : List Int := p.1 :: p.2.1 :: (p.2.2.length : Int) :: p.2.2
theorem go_stick : ∀ {m : Nat} {L : Rows} {s : St}, (goO m L s).1 = 0 → (goO m L s).2.2.2 = 0 → s.2 = 0 ∧ ∃ M, (goO m L s).2.1 = L ++ M ∧ M.length = m ∧ s.1 = flat (M.flatMap rowM) ++ (goO m L s).2.2.1
  | 0, L, s, _, h => ⟨h, [], by simp [goO], rfl, by simp [goO, flat]⟩
  | m + 1, L, s, e, h => by
    unfold goO at e h ⊢
    split
    · rename_i h1; rw [if_pos h1] at e; exact absurd e h1
    · rename_i h1
      rw [if_neg h1] at e h
      split
      · rename_i h2; rw [if_pos h2] at e; cases e
      · rename_i h2
        rw [if_neg h2] at e h
        obtain ⟨h3, M, h4, h5, h6⟩ := go_stick e h
        obtain ⟨h7, h8⟩ := cell_stick h3
        refine ⟨num_stick h7, ((numO s).1, (cellO (numO s).2).1) :: M, by rw [h4]; simp, by simp [h5], ?_⟩
        rw [num_more h7, h8, h6]
        simp [flat, rowM, List.append_assoc]
theorem go_put : ∀ {M L : Rows} (hM : Good (L ++ M)) (t : List UInt8), goO M.length L (flat (M.flatMap rowM) ++ t, 0) = (0, L ++ M, (t, 0))
  | [], L, _, t => by simp [goO, flat]
  | p :: M, L, h, t => by
    have hp : p ∈ L ++ p :: M := by simp
    have e : flat ((p :: M).flatMap rowM) ++ t = sev (tf p.1) ++ (flat (p.2.1 :: (p.2.2.length : Int) :: p.2.2) ++ (flat (M.flatMap rowM) ++ t)) := by simp [flat, rowM]
    have hb : badB L p.1 = false := by
      have hO := List.pairwise_append.1 h.ord
      have hc : cnt L (gof p.1) < 40 := by
        have := h.full (gof p.1)
        unfold cnt at this ⊢
        rw [List.filter_append, List.length_append, List.filter_cons, if_pos (by simp)] at this
        simp only [List.length_cons] at this
        omega
      unfold badB
      have hm : (match L.getLast? with | none => false | some q => !lessB q.1 p.1) = false := by
        cases hl : L.getLast? with
        | none => rfl
        | some q =>
          have hq : q ∈ L := List.mem_of_getLast? hl
          simp [hO.2.2 q hq p (by simp)]
      rw [hm]; simp [hc]
    show goO (M.length + 1) L _ = _
    unfold goO
    rw [e, num_put (h.key p hp), cell_put (h.cell p hp)]
    simp only [ne_eq, not_true_eq_false, if_false, hb, Bool.false_eq_true]
    have h2 : Good ((L ++ [p]) ++ M) := by simpa using h
    have := go_put h2 t
    simp only [List.append_assoc, List.singleton_append] at this
    simpa using this
theorem nums_row (L : Rows) : flat (numsL L) = sev (tf (L.length : Int)) ++ flat (L.flatMap rowM) := by
  unfold numsL
  show flat (_ :: L.flatMap rowM) = _
  simp [flat]
theorem take_back {L : Rows} (h : Good L) : takeT (flat (numsL L)) = (0, L) := by
  have hl := h.len
  unfold takeT
  rw [nums_row, within_put (most := 320) (n := (L.length : Int)) ⟨by omega, by omega⟩ (by omega) (by omega)]
  have := go_put (L := []) (M := L) (by simpa using h) []
  simp only [List.append_nil, List.nil_append] at this
  simp only [Int.toNat_natCast]
  rw [this]
  simp [endO]
theorem take_forth {l : List UInt8} {L : Rows} (h : takeT l = (0, L)) : Good L ∧ flat (numsL L) = l := by
  unfold takeT at h
  obtain ⟨m, hm⟩ : ∃ m, withinO 320 (l, 0) = m := ⟨_, rfl⟩
  rw [hm] at h
  obtain ⟨r, hr⟩ : ∃ r, goO m.1.toNat [] m.2 = r := ⟨_, rfl⟩
  rw [hr] at h
  unfold endO at h
  split at h
  · rename_i h1; exact absurd (congrArg Prod.fst h) h1
  · rename_i h1
    split at h
    · rename_i h2; exact absurd (congrArg Prod.fst h) h2
    · rename_i h2
      split at h
      · cases h
      · rename_i h3
        have h1 : r.1 = 0 := by simpa using h1
        have h2 : r.2.2.2 = 0 := by simpa using h2
        have h3 : r.2.2.1 = [] := by simpa using h3
        have hL : r.2.1 = L := congrArg Prod.snd h
        rw [← hr] at h1 h2 h3 hL
        have hg := go_good Good.nil h1
        obtain ⟨h4, M, h5, h6, h7⟩ := go_stick h1 h2
        rw [hL] at hg h5
        simp only [List.nil_append] at h5
        subst h5
        refine ⟨hg, ?_⟩
        rw [h3, List.append_nil] at h7
        rw [← hm] at h4
        obtain ⟨h8, h9⟩ := within_stick h4
        have hin := within_in (most := 320) (by omega) (l, 0)
        rw [nums_row, ← h7]
        have e : ((L.length : Nat) : Int) = (numO (l, 0)).1 := by rw [h6, ← h9, hm]; rw [hm] at hin; omega
        rw [e, ← hm, h9]
        exact (num_more h8).symm
end Go.Proofs.Ytghpbhcnblninaa.tbl

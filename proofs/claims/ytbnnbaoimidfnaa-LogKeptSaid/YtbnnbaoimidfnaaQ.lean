/- Plain: what a log's disk has that may lose its power: what a crash keeps. -/
import Derived.Test.YtbnnbaoimidfnaaL
namespace Go.Proofs.Ytbnnbaoimidfnaa.lg
set_option linter.unusedSimpArgs false
set_option linter.unusedVariables false
open Go.RowKit byt frm dsk

def appOf (r : Fr) : Chg := .app 2 (fb r)
/-- P is sure, Q was appended since. -/
structure Inv (x : D) (y : Lg) (P Q : List Fr) (k : Nat) : Prop where
  recs : y.recs = P ++ Q
  file : y.file = 2
  sure : x.sure 2 = bytesOf P
  loose : x.loose = Q.map appOf
  none : y.loose = false → Q = []
  len : y.recs.length ≤ k
/-- Whatever a crash keeps, what is read is a beginning of A, and no less than so many. -/
def Kept (x : D) (A : List Fr) (least : Nat) : Prop := ∀ n b, ∃ j, least ≤ j ∧ j ≤ A.length ∧ all (x.kept n b 2) = A.take j
def leastOf (y : Lg) (A : List Fr) (s : Nat) : Nat := if y.recs.length < A.length then min s y.recs.length else s
structure KExit (x : D) (y : Lg) (A : List Fr) (s k : Nat) : Prop where
  kept : Kept x A (leastOf y A s)
  le : y.recs.length ≤ A.length
  len : A.length ≤ k
  loose : x.loose.length ≤ k + 1
section
variable {x x2 : D} {y y2 : Lg} {E : Int} {P Q : List Fr} {k : Nat}
theorem chg_cases {c : Chg} (h : x.chg c = (E, x2)) : x2.sure = x.sure ∧ (E = 0 → x2.loose = x.loose ++ [c]) ∧ (E ≠ 0 → x2.loose = x.loose) := by
  unfold D.chg at h
  split at h
  · obtain ⟨rfl, rfl⟩ := Prod.mk.inj h
    exact ⟨D.op_sure x, fun _ => rfl, fun h => absurd rfl h⟩
  · rename_i h0
    have h1 := D.op_sure x
    have h2 := D.op_loose x
    rw [h] at h0 h1 h2
    exact ⟨h1, fun h => absurd h h0, fun _ => h2⟩
theorem append_cases {i : Nat} {s : ByteArray} (h : x.append i s = (E, x2)) : x2.sure = x.sure ∧ (E = 0 → x2.loose = x.loose ++ [.app i s]) ∧ (E ≠ 0 → x2.loose = x.loose) := by
  unfold D.append at h
  split at h
  · obtain ⟨rfl, rfl⟩ := Prod.mk.inj h; exact ⟨rfl, fun h => absurd h (by decide), fun _ => rfl⟩
  split at h
  · obtain ⟨rfl, rfl⟩ := Prod.mk.inj h; exact ⟨rfl, fun h => absurd h (by decide), fun _ => rfl⟩
  split at h
  · obtain ⟨rfl, rfl⟩ := Prod.mk.inj h; exact ⟨rfl, fun h => absurd h (by decide), fun _ => rfl⟩
  · have := chg_cases h
    rwa [Int.toNat_natCast] at this
theorem cut_cases {i n : Nat} (h : x.cut i n = (E, x2)) : x2.sure = x.sure ∧ (E = 0 → x2.loose = x.loose ++ [.cut i n]) ∧ (E ≠ 0 → x2.loose = x.loose) := by
  unfold D.cut at h
  split at h
  · obtain ⟨rfl, rfl⟩ := Prod.mk.inj h; exact ⟨rfl, fun h => absurd h (by decide), fun _ => rfl⟩
  split at h
  · obtain ⟨rfl, rfl⟩ := Prod.mk.inj h; exact ⟨rfl, fun h => absurd h (by decide), fun _ => rfl⟩
  split at h
  · obtain ⟨rfl, rfl⟩ := Prod.mk.inj h; exact ⟨rfl, fun h => absurd h (by decide), fun _ => rfl⟩
  · have := chg_cases h
    rwa [Int.toNat_natCast, Int.toNat_natCast] at this
theorem sync_cases (h : x.sync = (E, x2)) : (E = 0 → x2.sure = x.now ∧ x2.loose = []) ∧ (E ≠ 0 → x2.sure = x.sure ∧ x2.loose = x.loose) := by
  unfold D.sync at h
  split at h
  · obtain ⟨rfl, rfl⟩ := Prod.mk.inj h; exact ⟨fun h => absurd h (by decide), fun _ => ⟨rfl, rfl⟩⟩
  split at h
  · obtain ⟨rfl, rfl⟩ := Prod.mk.inj h; exact ⟨fun _ => ⟨rfl, rfl⟩, fun h => absurd rfl h⟩
  · rename_i h0
    have h1 := D.op_sure x
    have h2 := D.op_loose x
    rw [h] at h0 h1 h2
    exact ⟨fun h => absurd h h0, fun _ => ⟨h1, h2⟩⟩
theorem Inv.start {n : Int} {x2 : D} (h : (D.fresh 4194304).power n = (E, x2)) : Inv x2 ⟨2, [], 0, false⟩ [] [] 0 := by
  have hl := power_loose h
  have hs : x2.sure = (D.fresh 4194304).sure := by
    unfold D.power at h
    split at h
    · obtain ⟨rfl, rfl⟩ := Prod.mk.inj h; rfl
    split at h
    · obtain ⟨rfl, rfl⟩ := Prod.mk.inj h; rfl
    · obtain ⟨rfl, rfl⟩ := Prod.mk.inj h; rfl
  exact ⟨rfl, rfl, by rw [hs]; rfl, by rw [hl]; rfl, fun _ => rfl, Nat.le_refl _⟩
theorem putR_inv {kd : Nat} {t : ByteArray} (hi : Inv x y P Q k) (h : putR x y kd t = (E, x2, y2)) :
    (E = 0 ∧ ∃ hx : kd < 256 ∧ t.size ≤ 65536, 0 < kd ∧ y2.recs = y.recs ++ [⟨(kd, t), hx⟩] ∧ Inv x2 y2 P (Q ++ [⟨(kd, t), hx⟩]) (k + 1)) ∨ (E ≠ 0 ∧ y2.recs = y.recs ∧ Inv x2 y2 P Q (k + 1)) := by
  rcases putR_cases h with ⟨h0, hkp, h⟩ | ⟨rfl, rfl, rfl, _⟩
  · obtain ⟨h1, h2⟩ := putL_cases h
    obtain ⟨a1, a2, a3⟩ := append_cases h1
    rcases h2 with ⟨rfl, rfl⟩ | ⟨hE, rfl⟩
    · refine .inl ⟨rfl, hkp, h0, rfl, ⟨?_, hi.file, by rw [a1]; exact hi.sure, ?_, fun h => (by cases h), ?_⟩⟩
      · show y.recs ++ [_] = P ++ (Q ++ [_]); rw [hi.recs, List.append_assoc]
      · rw [a2 rfl, hi.loose, List.map_append, hi.file]; rfl
      · show (y.recs ++ [_]).length ≤ _; rw [List.length_append]; exact Nat.succ_le_succ hi.len
    · exact .inr ⟨hE, rfl, ⟨hi.recs, hi.file, by rw [a1]; exact hi.sure, by rw [a3 hE]; exact hi.loose, hi.none, by have := hi.len; omega⟩⟩
  · exact .inr ⟨by decide, rfl, ⟨hi.recs, hi.file, hi.sure, hi.loose, hi.none, by have := hi.len; omega⟩⟩
theorem syncL_inv (hi : Inv x y P Q k) (hy : y.Ok x) (h : syncL x y = (E, x2, y2)) : y2.recs = y.recs ∧ (E = 0 → Inv x2 y2 y.recs [] k) ∧ (E ≠ 0 → Inv x2 y2 P Q k) := by
  rcases syncL_cases h with ⟨h0, rfl, rfl, rfl⟩ | ⟨_, hs, ⟨rfl, rfl⟩ | ⟨hE, rfl⟩⟩
  · have hq := hi.none h0
    subst hq
    have hP : y2.recs = P := by rw [hi.recs, List.append_nil]
    exact ⟨rfl, fun _ => ⟨by rw [List.append_nil], hi.file, by rw [hP]; exact hi.sure, hi.loose, fun _ => rfl, hi.len⟩, fun h => absurd rfl h⟩
  · obtain ⟨s1, s2⟩ := (sync_cases hs).1 rfl
    refine ⟨rfl, fun _ => ⟨(List.append_nil _).symm, hi.file, ?_, s2, fun _ => rfl, hi.len⟩, fun h => absurd rfl h⟩
    rw [s1, ← hi.file]; exact hy.now
  · obtain ⟨s1, s2⟩ := (sync_cases hs).2 hE
    exact ⟨rfl, fun h => absurd h hE, fun _ => ⟨hi.recs, hi.file, by rw [s1]; exact hi.sure, by rw [s2]; exact hi.loose, hi.none, hi.len⟩⟩
theorem run_apps (f : Files) (Q : List Fr) : run f (Q.map appOf) 2 = f 2 ++ bytesOf Q := by
  induction Q generalizing f with
  | nil => exact (frm.append_none _).symm
  | cons r Q ih =>
    rw [List.map_cons, run_cons, ih]
    show upd f 2 (f 2 ++ fb r) 2 ++ bytesOf Q = f 2 ++ (fb r ++ bytesOf Q)
    rw [upd_same]
    exact ba_ext (by simp only [bl_append, List.append_assoc])
theorem all_take {A : List Fr} (h : Fine A) : all (bytesOf A) = A := by
  have := all_bytesOf h (txt [])
  rwa [frm.append_none, all_none, List.append_nil] at this
/-- What is read where the first of the loose ones are kept, and a part of the next one. -/
theorem kept_front {f : Files} (hP : f 2 = bytesOf P) (hf : Fine (P ++ Q)) {k : Nat} (hk : k < Q.length) (b : Int) : ∃ j, P.length ≤ j ∧ j ≤ (P ++ Q).length ∧ all (dsk.part (run f ((Q.map appOf).take k)) (appOf Q[k]) b 2) = (P ++ Q).take j := by
  have hr0 := run_apps f (Q.take k)
  rw [← List.map_take] 
  obtain ⟨r, hr⟩ : ∃ r, Q[k] = r := ⟨_, rfl⟩
  have hrf : 0 < r.1.1 := hf r (List.mem_append.2 (.inr (by rw [← hr]; exact List.getElem_mem hk)))
  have hF : Fine (P ++ Q.take k) := fun z hz => hf z (by
    rcases List.mem_append.1 hz with hz | hz
    · exact List.mem_append.2 (.inl hz)
    · exact List.mem_append.2 (.inr (List.mem_of_mem_take hz)))
  have e : dsk.part (run f ((Q.take k).map appOf)) (appOf Q[k]) b 2 = bytesOf (P ++ Q.take k) ++ (fb r).extract 0 (win b (fb r).size) := by
    show upd (run f ((Q.take k).map appOf)) 2 _ 2 = _
    rw [upd_same, hr, hr0, hP, bytesOf_append]
  have ht : (P ++ Q).take (P.length + k) = P ++ Q.take k := by rw [List.take_length_add_append]
  rw [e, all_bytesOf hF]
  rcases Nat.lt_or_ge (win b (fb r).size) (fb r).size with hlt | hge
  · rw [all_torn r hrf hlt, List.append_nil]
    exact ⟨P.length + k, by omega, by rw [List.length_append]; omega, ht.symm⟩
  · have hw := win_le b (fb r).size
    have e2 : (fb r).extract 0 (win b (fb r).size) = fb r ++ txt [] := by
      rw [show win b (fb r).size = (fb r).size by omega, frm.append_none]
      exact ba_ext (by rw [bl_sub]; exact List.take_length)
    rw [e2, all_fb r hrf, all_none]
    refine ⟨P.length + (k + 1), by omega, by rw [List.length_append]; omega, ?_⟩
    rw [List.take_length_add_append, List.take_succ_eq_append_getElem hk, hr, List.append_assoc]
theorem kept_all {f : Files} (hP : f 2 = bytesOf P) (hf : Fine (P ++ Q)) : all (run f (Q.map appOf) 2) = (P ++ Q).take (P ++ Q).length := by
  rw [run_apps, hP, ← bytesOf_append, all_take hf, List.take_length]
theorem apps_get {k : Nat} (hk : k < Q.length) : (Q.map appOf)[k]? = some (appOf Q[k]) := by rw [List.getElem?_map, List.getElem?_eq_getElem hk]; rfl
theorem Inv.kept (hi : Inv x y P Q k) (hf : Fine y.recs) : Kept x y.recs P.length := by
  intro n b
  rw [hi.recs] at hf ⊢
  unfold D.kept
  obtain ⟨m, hm⟩ : ∃ m, win n x.loose.length = m := ⟨_, rfl⟩
  have hml : m ≤ Q.length := by have := win_le n x.loose.length; rw [hm, hi.loose, List.length_map] at this; exact this
  rw [hm, hi.loose]
  rcases Nat.lt_or_ge m Q.length with hlt | hge
  · rw [apps_get hlt]
    exact kept_front hi.sure hf hlt b
  · obtain rfl : m = Q.length := by omega
    rw [List.getElem?_eq_none (by rw [List.length_map]; omega), List.take_of_length_le (by rw [List.length_map]; omega)]
    exact ⟨_, by rw [List.length_append]; omega, Nat.le_refl _, kept_all hi.sure hf⟩
/-- Where the Cut is done and not synced. -/
theorem kept_cut {m : Nat} (hr : y.recs = P ++ Q) (hs : x2.sure 2 = bytesOf P) (hl : x2.loose = Q.map appOf ++ [.cut 2 (whl (y.recs.take m))]) (hf : Fine y.recs) (hm : m ≤ y.recs.length) : Kept x2 y.recs (min P.length m) := by
  intro n b
  unfold D.kept
  obtain ⟨i, hi⟩ : ∃ i, win n x2.loose.length = i := ⟨_, rfl⟩
  have hil : i ≤ Q.length + 1 := by have := win_le n x2.loose.length; rw [hi, hl, List.length_append, List.length_map] at this; exact this
  rw [hi, hl]
  have hf' := hf
  rw [hr] at hf'
  rcases Nat.lt_trichotomy i Q.length with hlt | rfl | hgt
  · rw [List.getElem?_append_left (by rw [List.length_map]; exact hlt), apps_get hlt, List.take_append_of_le_length (by rw [List.length_map]; omega)]
    obtain ⟨j, h1, h2, h3⟩ := kept_front hs hf' hlt b
    rw [hr]
    exact ⟨j, by omega, h2, h3⟩
  · rw [List.getElem?_append_right (by rw [List.length_map]; omega), List.length_map, Nat.sub_self, List.take_append_of_le_length (by rw [List.length_map]; omega)]
    have e1 : (Q.map appOf).take Q.length = Q.map appOf := List.take_of_length_le (by rw [List.length_map]; omega)
    have hall : (P ++ Q).length = P.length + Q.length := List.length_append
    have h3 := kept_all hs hf'
    rw [hr]
    refine ⟨_, by rw [hall]; omega, Nat.le_refl _, ?_⟩
    show all (run x2.sure ((Q.map appOf).take Q.length) 2) = _
    rw [e1]; exact h3
  · obtain rfl : i = Q.length + 1 := by omega
    rw [List.getElem?_eq_none (by rw [List.length_append, List.length_map]; exact Nat.le_refl _), List.take_of_length_le (by rw [List.length_append, List.length_map]; exact Nat.le_refl _), run_append]
    refine ⟨m, by omega, hm, ?_⟩
    show all (upd (run x2.sure (Q.map appOf)) 2 ((run x2.sure (Q.map appOf) 2).extract 0 (whl (y.recs.take m))) 2) = _
    rw [upd_same, run_apps, hs, ← bytesOf_append, ← hr, bytesOf_take, all_take (hf.take m)]
theorem cutL_inv {m : Nat} (hi : Inv x y P Q k) (hy : y.Ok x) (hm : m < y.recs.length) (h : cutL x y m = (E, x2, y2)) :
    (E = 0 ∧ y2.recs = y.recs.take m ∧ Inv x2 y2 (y.recs.take m) [] k) ∨ (E ≠ 0 ∧ KExit x2 y2 y.recs P.length k) := by
  obtain ⟨E1, x1, hc⟩ : ∃ E1 x1, x.cut y.file (y.at m : Nat) = (E1, x1) := ⟨_, _, rfl⟩
  rw [cutL_mid hm hc] at h
  obtain ⟨c1, c2, c3⟩ := cut_cases hc
  have hql : Q.length ≤ k := by have := hi.len; rw [hi.recs, List.length_append] at this; omega
  have hPl : P.length ≤ y.recs.length := by rw [hi.recs, List.length_append]; omega
  split at h
  · rename_i hE
    subst hE
    have hok1 := cut_ok hc (Nat.le_of_lt hm) hy
    have hrl : (y.recs.take m).length = m := by rw [List.length_take]; omega
    rcases syncL_cases h with ⟨h0, _⟩ | ⟨_, hs, hr⟩
    · cases h0
    · rcases hr with ⟨rfl, rfl⟩ | ⟨hE, rfl⟩
      · obtain ⟨s1, s2⟩ := (sync_cases hs).1 rfl
        refine .inl ⟨rfl, rfl, ⟨(List.append_nil _).symm, hi.file, ?_, s2, fun _ => rfl, ?_⟩⟩
        · rw [s1, ← hi.file]; exact hok1.now
        · show (y.recs.take m).length ≤ k
          have := hi.len; omega
      · obtain ⟨s1, s2⟩ := (sync_cases hs).2 hE
        refine .inr ⟨hE, ⟨?_, ?_, hi.len, ?_⟩⟩
        · have : leastOf { y with recs := y.recs.take m, sure := min y.sure m, loose := true } y.recs P.length = min P.length m := by
            show (if (y.recs.take m).length < y.recs.length then min P.length (y.recs.take m).length else P.length) = _
            rw [hrl, if_pos hm]
          rw [this]
          refine kept_cut hi.recs (by rw [s1, c1]; exact hi.sure) ?_ hy.fine (Nat.le_of_lt hm)
          rw [s2, c2 rfl, hi.loose, hi.file]; rfl
        · show (y.recs.take m).length ≤ _
          omega
        · rw [s2, c2 rfl, hi.loose, List.length_append, List.length_map]; exact Nat.succ_le_succ hql
  · rename_i hE
    simp only [Prod.mk.injEq] at h
    obtain ⟨rfl, rfl, rfl⟩ := h
    have hi2 : Inv x1 y P Q k := ⟨hi.recs, hi.file, by rw [c1]; exact hi.sure, by rw [c3 hE]; exact hi.loose, hi.none, hi.len⟩
    refine .inr ⟨hE, ⟨?_, Nat.le_refl _, hi.len, ?_⟩⟩
    · have : leastOf y y.recs P.length = P.length := if_neg (by omega)
      rw [this]; exact hi2.kept hy.fine
    · rw [hi2.loose, List.length_map]; omega
theorem Inv.exit (hi : Inv x y P Q k) (hy : y.Ok x) : KExit x y y.recs P.length k := by
  have hql : Q.length ≤ k := by have := hi.len; rw [hi.recs, List.length_append] at this; omega
  refine ⟨?_, Nat.le_refl _, hi.len, ?_⟩
  · have : leastOf y y.recs P.length = P.length := if_neg (by omega)
    rw [this]; exact hi.kept hy.fine
  · rw [hi.loose, List.length_map]; omega
end
end Go.Proofs.Ytbnnbaoimidfnaa.lg

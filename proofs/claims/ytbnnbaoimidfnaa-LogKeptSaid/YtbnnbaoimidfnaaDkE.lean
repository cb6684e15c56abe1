/- A change's function values, and what each of them does to files in an array. -/
import Derived.Test.YtbnnbaoimidfnaaDkC
namespace Go.Proofs.Ytbnnbaoimidfnaa.dsk
set_option linter.unusedSimpArgs false
set_option linter.unusedVariables false
open Go.RowKit

abbrev ptr (b o : Nat) : Value := .pointer (some ⟨b, o, none⟩)
/-- The two function values of a change; the boxes that they captured lie in F. -/
def IsChg (w : World) (F : Nat → Prop) : Chg → Value → Value → Prop
  | .app i s, v1, v2 => ∃ bf bs bi, v1 = .func (.func 36) #[] #[ptr bf 0, ptr bs 0] ∧ v2 = .func (.func 34) #[] #[ptr bi 0, ptr bs 0] ∧ (Box w bf 67 v2 ∧ F bf) ∧ (Box w bs 9 (.string s) ∧ F bs) ∧ (Box w bi 3 (.int .i64 i) ∧ F bi)
  | .cut i n, v1, v2 => ∃ bi bn, v1 = .func (.func 37) #[] #[ptr bi 0, ptr bn 0] ∧ v2 = .nilFunc ∧ (Box w bi 3 (.int .i64 i) ∧ F bi) ∧ (Box w bn 3 (.int .i64 n) ∧ F bn)
  | .mov _ _, _, _ => False
def boxT (T : TypeId) : Prop := T = 3 ∨ T = 9 ∨ T = 67
theorem IsChg.frame {w w' : World} {F G : Nat → Prop} {c : Chg} {v1 v2 : Value} (h : IsChg w F c v1 v2) (hf : ∀ k T v, F k → boxT T → Box w k T v → Box w' k T v) (hG : ∀ k, F k → G k) : IsChg w' G c v1 v2 := by
  cases c with
  | app i s =>
    obtain ⟨bf, bs, bi, e1, e2, ⟨h1, f1⟩, ⟨h2, f2⟩, ⟨h3, f3⟩⟩ := h
    exact ⟨bf, bs, bi, e1, e2, ⟨hf _ _ _ f1 (.inr (.inr rfl)) h1, hG _ f1⟩, ⟨hf _ _ _ f2 (.inr (.inl rfl)) h2, hG _ f2⟩, ⟨hf _ _ _ f3 (.inl rfl) h3, hG _ f3⟩⟩
  | cut i n =>
    obtain ⟨bi, bn, e1, e2, ⟨h1, f1⟩, ⟨h2, f2⟩⟩ := h
    exact ⟨bi, bn, e1, e2, ⟨hf _ _ _ f1 (.inl rfl) h1, hG _ f1⟩, ⟨hf _ _ _ f2 (.inl rfl) h2, hG _ f2⟩⟩
  | mov a b =>
    exact h.elim

/-- The cells of a block, those from o on being 16 files'. -/
def with16 (o : Nat) (F vs : Nat → Value) : Nat → Value := fun j => if o ≤ j ∧ j < o + 16 then vs (j - o) else F j
theorem with16_in {o : Nat} {F vs : Nat → Value} {i : Nat} (hi : i < 16) : with16 o F vs (o + i) = vs i := by
  unfold with16; rw [if_pos (by omega)]; congr 1; omega
theorem with16_out {o : Nat} {F vs : Nat → Value} {j : Nat} (h : j < o ∨ o + 16 ≤ j) : with16 o F vs j = F j := by
  unfold with16; rw [if_neg (by omega)]
/-- The files vs in an array within block b have become vs', which hold f'. -/
structure Did (w w' : World) (b o n : Nat) (T : TypeId) (F vs vs' : Nat → Value) (f' : Files) : Prop where
  os : w'.os = w.os
  tape : w'.tape = w.tape
  output : w'.output = w.output
  size : w.heap.size ≤ w'.heap.size
  row : w'.rowIs b T n (with16 o F vs')
  fls : Fls w' vs' f'
  block : ∀ k, k < w.heap.size → k ≠ b → (∀ i, i < 16 → (vs i).ownBlock ≠ some k) → w'.heap[k]? = w.heap[k]?
  own : ∀ i, i < 16 → ∀ g, (vs' i).ownBlock = some g → (∃ j, j < 16 ∧ (vs j).ownBlock = some g) ∨ w.heap.size ≤ g
  keeps : ∀ us fs, Fls w us fs → Crs vs us → Fls w' us fs ∧ Crs vs' us
theorem Put.draw {w w' : World} {v v' : Value} {x : ByteArray} (p : Put w w' v v' x) : Put w w'.drew v v' x := ⟨p.os, p.tape, p.output, p.size, p.block, p.has, p.own, p.keeps, p.apart⟩
theorem did_put {w w1 : World} {b o n i : Nat} {T : TypeId} {F vs : Nat → Value} {f : Files} {v' : Value} {x : ByteArray} (hrow : w.rowIs b T n F) (hT : T ≠ 5) (hn : o + 16 ≤ n) (hF : ∀ j, j < 16 → F (o + j) = vs j) (hf : Fls w vs f) (hi : i < 16) (p : Put w w1 (vs i) v' x) :
    Did w (w1.setCell ⟨b, o + i, none⟩ v') b o n T F vs (upd vs i v') (upd f i x) := by
  have hrow1 : w1.rowIs b T n F := Put.row p (hf.has i hi) hrow hT
  refine ⟨p.os, p.tape, p.output, by simpa using p.size, ?_, (hf.put hi p).setCell hrow1 hT v', fun k hk hb hv => ?_, fun j hj g hg => ?_, fun us fs hu hc => ?_⟩
  · refine (hrow1.set (o + i) v').congr fun j hj => ?_
    by_cases e : j = o + i
    · subst e; rw [if_pos rfl, with16_in hi, upd_same]
    · rw [if_neg e]
      by_cases h : o ≤ j ∧ j < o + 16
      · unfold with16; rw [if_pos h, upd_other _ _ (by omega), ← hF (j - o) (by omega)]; congr 1; omega
      · rw [with16_out (by omega)]
  · rw [heap_setCell_other w1 _ k v' hb]
    exact p.block k hk (hv i hi)
  · by_cases e : j = i
    · subst e; rw [upd_same] at hg
      rcases p.own g hg with h | h
      · exact .inl ⟨j, hj, h⟩
      · exact .inr h
    · rw [upd_other _ _ e] at hg; exact .inl ⟨j, hj, hg⟩
  · exact ⟨(hu.other p (fun j hj => hc i j hi hj)).setCell hrow1 hT v', hc.put hu hi p⟩
theorem did_move {w : World} {b o n x y : Nat} {T : TypeId} {F vs : Nat → Value} {f : Files} (hrow : w.rowIs b T n F) (hT : T ≠ 5) (hn : o + 16 ≤ n) (hF : ∀ j, j < 16 → F (o + j) = vs j) (hf : Fls w vs f) (hx : x < 16) (hy : y < 16) (hne : x ≠ y) :
    Did w ((w.drew.setCell ⟨b, o + y, none⟩ (vs x)).setCell ⟨b, o + x, none⟩ (.slice none 0 0)) b o n T F vs (upd (upd vs y (vs x)) x (.slice none 0 0)) (upd (upd f y (f x)) x empty) := by
  have hrow0 : w.drew.rowIs b T n F := hrow
  have hrow1 := hrow0.set (o + y) (vs x)
  have hf0 : Fls w.drew (upd (upd vs y (vs x)) x (.slice none 0 0)) (upd (upd f y (f x)) x empty) := (hf.move hx hy hne).frame fun _ _ _ _ => rfl
  refine ⟨rfl, rfl, rfl, by simp, ?_, (hf0.setCell hrow0 hT _).setCell hrow1 hT _, fun k hk hb hv => ?_, fun j hj g hg => ?_, fun us fs hu hc => ?_⟩
  · refine (hrow1.set (o + x) (.slice none 0 0)).congr fun j hj => ?_
    by_cases e : j = o + x
    · subst e; rw [if_pos rfl, with16_in hx, upd_same]
    · rw [if_neg e]
      by_cases e' : j = o + y
      · subst e'; rw [if_pos rfl, with16_in hy, upd_other _ _ (Ne.symm hne), upd_same]
      · rw [if_neg e']
        by_cases h : o ≤ j ∧ j < o + 16
        · unfold with16; rw [if_pos h, upd_other _ _ (by omega), upd_other _ _ (by omega), ← hF (j - o) (by omega)]; congr 1; omega
        · rw [with16_out (by omega)]
  · rw [heap_setCell_other _ _ k _ hb, heap_setCell_other _ _ k _ hb]; rfl
  · by_cases e : j = x
    · subst e; rw [upd_same] at hg; simp [Value.ownBlock] at hg
    · rw [upd_other _ _ e] at hg
      by_cases e' : j = y
      · subst e'; rw [upd_same] at hg; exact .inl ⟨x, hx, hg⟩
      · rw [upd_other _ _ e'] at hg; exact .inl ⟨j, hj, hg⟩
  · have hu0 : Fls w.drew us fs := hu.frame fun _ _ _ _ => rfl
    exact ⟨(hu0.setCell hrow0 hT _).setCell hrow1 hT _, hc.move hx⟩

/-- A call that hands nothing back. -/
def DidPost (w : World) (b o n : Nat) (T : TypeId) (F vs : Nat → Value) (f' : Files) (e : Ending) (w' : World) : Prop := e = .returned (.tuple #[]) ∧ ∃ vs', Did w w' b o n T F vs vs' f'

/-- The first bytes of an Append, or all of it. -/
theorem first_any (b o bi bs n i m : Nat) (k : Int) (T : TypeId) (F vs : Nat → Value) (f : Files) (t : ByteArray) (w : World) (hrow : w.rowIs b T n F) (hT : T ≠ 5) (hT3 : T ≠ 3) (hT9 : T ≠ 9) (hn : o + 16 ≤ n) (hF : ∀ j, j < 16 → F (o + j) = vs j) (hf : Fls w vs f)
    (hi : i < 16) (h1 : -9223372036854775808 ≤ k) (h2 : k ≤ 9223372036854775807) (hm : win k t.size = m) (hsz : (f i).size + t.size ≤ 8388608) (hbi : Box w bi 3 (.int .i64 i)) (hbs : Box w bs 9 (.string t)) :
    Calls Try.prog 34 #[ptr b o, .int .i64 k, ptr bi 0, ptr bs 0] w (DidPost w b o n T F vs (upd f i (f i ++ t.extract 0 m))) := by
  refine (append1_any b o i m bi bs n k T F (vs i) (f i) t w hrow hT hT3 hT9 hi hn (hF i hi) h1 h2 hm (hf.has i hi) hsz hbi hbs).mono ?_
  rintro e w' ⟨w1, v', rfl, rfl, p⟩
  exact ⟨rfl, _, did_put hrow hT hn hF hf hi p⟩
set_option maxHeartbeats 800000 in
theorem whole_app (b o bf bs bi n i : Nat) (T : TypeId) (F vs : Nat → Value) (f : Files) (t : ByteArray) (w : World) (hrow : w.rowIs b T n F) (hT : T ≠ 5) (hT3 : T ≠ 3) (hT9 : T ≠ 9) (hn : o + 16 ≤ n) (hF : ∀ j, j < 16 → F (o + j) = vs j) (hf : Fls w vs f)
    (hi : i < 16) (hsz : (f i).size + t.size ≤ 8388608) (hbf : Box w bf 67 (.func (.func 34) #[] #[ptr bi 0, ptr bs 0])) (hbi : Box w bi 3 (.int .i64 i)) (hbs : Box w bs 9 (.string t)) :
    Calls Try.prog 36 #[ptr b o, ptr bf 0, ptr bs 0] w (DidPost w b o n T F vs (upd f i (f i ++ t))) := by
  have hc1 := hbf.cell
  have hc2 := hbs.cell
  have HC := Lib.hid (first_any b o bi bs n i t.size t.size T F vs f t w hrow hT hT3 hT9 hn hF hf hi (by omega) (by omega) (win_full _) hsz hbi hbs)
  clear hrow hF hf hbi hbs hbf
  go_enter Try.func36, Try.ntmps36
  go_wp2_with fail
  refine HC.out.mono ?_
  rintro e w' ⟨rfl, h⟩
  rw [extract_whole] at h
  have H := Lib.hid h
  clear h
  go_wp2_with fail
  go_end0
  exact ⟨rfl, H.out⟩
theorem whole_cut (b o bi bk n i k : Nat) (T : TypeId) (F vs : Nat → Value) (f : Files) (w : World) (hrow : w.rowIs b T n F) (hT : T ≠ 5) (hn : o + 16 ≤ n) (hF : ∀ j, j < 16 → F (o + j) = vs j) (hf : Fls w vs f)
    (hi : i < 16) (hk : k ≤ (f i).size) (hbi : Box w bi 3 (.int .i64 i)) (hbk : Box w bk 3 (.int .i64 k)) :
    Calls Try.prog 37 #[ptr b o, ptr bi 0, ptr bk 0] w (DidPost w b o n T F vs (upd f i ((f i).extract 0 k))) := by
  have hh := hf.has i hi
  obtain ⟨a, cap, ev⟩ := hh.len
  have hcap : (f i).size ≤ cap ∧ cap ≤ maxLen := by
    rcases hh with ⟨h1, h2⟩ | ⟨g, cap', cur, h1, _, h2, h3, _⟩
    · rw [ev] at h1; simp only [Value.slice.injEq] at h1; rw [h2]; exact ⟨by rw [h1.2.2]; decide, by rw [h1.2.2]; unfold maxLen; omega⟩
    · rw [ev] at h1; simp only [Value.slice.injEq] at h1; rw [h1.2.2]; exact ⟨h2, h3⟩
  refine (cut1_any b o i k bi bk n T F a (f i).size cap w hrow hi hn (by rw [hF i hi, ev]) (by omega) hcap.2 hbi hbk).mono ?_
  rintro e w' ⟨rfl, rfl⟩
  exact ⟨rfl, _, did_put hrow hT hn hF hf hi (cut_has hh ev hk).draw⟩
end Go.Proofs.Ytbnnbaoimidfnaa.dsk

/- Plain facts: an expression's line, told piece by piece and no further than a line may be; numbers are no greater than their tokens'. No program's run in this file. Whom a line is told: a counter, a writer; what WriteString, Len, Grow and String do. strconv.FormatInt where the library's table stands. A writer that is fresh, grown; what it holds. Telling, whoever listens: what row does, where its parts are told. Telling, whoever listens: what tell does. -/
import Derived.Test.YtimjpgmgpgpanaaGreatDoorMEt
import Derived.Test.YtimjpgmgpgpanaaGreatDoorLxY
import Derived.Test.YtimjpgmgpgpanaaGreatDoorMNm
import Derived.Test.YtimjpgmgpgpanaaGreatDoorCr
import Derived.Lib.AppendIntMem
import Derived.Lib.Builder
import Derived.Lib.AppendStr
import Derived.Lib.UnsafeStr
import Derived.Lib.MakeNoZero
import Derived.Laws.Externs
import Derived.Laws.IdiomCopy
import Derived.WalkKit
import Derived.BigQuiet
import Derived.Handy
import Derived.Lib.Hide
import Derived.OwnWalk
import Derived.RegionTactic
import Derived.Test.YtimjpgmgpgpanaaGreatDoorMEx
import Derived.Deep.LoopGhost
import Derived.Deep.DeepCutAuto
import Derived.Deep.RegionHeld3
section
namespace Go.Proofs.YtimjpgmgpgpanaaGreatDoor.exp
set_option linter.unusedSimpArgs false
set_option linter.unusedVariables false
open nam lex

def sgnR (o : Nat) : List Nat :=
  if o = 7 then [32, 43, 32] else if o = 8 then [32, 45, 32] else if o = 9 then [32, 42, 32] else if o = 10 then [32, 47, 32] else if o = 11 then [32, 37, 32] else if o = 12 then [32, 60, 32] else if o = 13 then [32, 60, 61, 32] else if o = 14 then [32, 61, 32] else if o = 15 then [32, 33, 61, 32] else if o = 16 then [32, 38, 32] else [32, 124, 32]
/-- What stands ahead of each part. -/
def aheads (o : Nat) : List (List Nat) :=
  if o = 5 then [[40, 45]] else if o = 6 then [[40, 33]] else if o = 18 then [[40, 105, 102, 32], [32, 116, 104, 101, 110, 32], [32, 101, 108, 115, 101, 32]] else [[40], sgnR o]
def weave : List (List Nat) → List (List Nat) → List Nat
  | s :: ss, a :: al => s ++ (a ++ weave ss al)
  | _, _ => [41]
def lineO (o : Nat) (n : Int) (al : List (List Nat)) : List Nat :=
  if o = 1 then digR n.toNat else if o = 2 then [107, 101, 121] else if o = 3 then [118, 97, 108] else if o = 4 then [97, 99, 99] else weave (aheads o) al
mutual
/-- An expression's line. -/
def Ex.line : Ex → List Nat
  | .mk o n l => lineO o n (lines l)
def lines : List Ex → List (List Nat)
  | [] => []
  | x :: l => x.line :: lines l
end
theorem line_eq (x : Ex) : x.line = lineO x.op x.n (lines x.args) := by cases x; rw [Ex.line]; rfl
theorem lines_nil : lines [] = [] := by rw [lines]
theorem lines_cons (x : Ex) (l : List Ex) : lines (x :: l) = x.line :: lines l := by rw [lines]
/-- What is told, behind T: no piece more once T is too wide. -/
def weaveT : List (List Nat) → List (ByteArray → ByteArray) → ByteArray → ByteArray
  | s :: ss, f :: fs, T => if 400 < T.size then T else weaveT ss fs (f (T ++ textOf s))
  | _, _, T => T ++ textOf [41]
def tellO (o : Nat) (n : Int) (fs : List (ByteArray → ByteArray)) (T : ByteArray) : ByteArray :=
  if o = 1 then T ++ textOf (digR n.toNat) else if o = 2 then T ++ textOf [107, 101, 121] else if o = 3 then T ++ textOf [118, 97, 108] else if o = 4 then T ++ textOf [97, 99, 99] else weaveT (aheads o) fs T
mutual
def Ex.tell : Ex → ByteArray → ByteArray
  | .mk o n l => tellO o n (tellsL l)
def tellsL : List Ex → List (ByteArray → ByteArray)
  | [] => []
  | x :: l => x.tell :: tellsL l
end
theorem tell_eq (x : Ex) : x.tell = tellO x.op x.n (tellsL x.args) := by cases x; rw [Ex.tell]; rfl
theorem tellsL_nil : tellsL [] = [] := by rw [tellsL]
theorem tellsL_cons (x : Ex) (l : List Ex) : tellsL (x :: l) = x.tell :: tellsL l := by rw [tellsL]
theorem tellsL_map (l : List Ex) : tellsL l = l.map Ex.tell := by
  induction l with
  | nil => rw [tellsL_nil]; rfl
  | cons x l ih => rw [tellsL_cons, ih]; rfl

/-! Numbers. -/
def Num : Ex → Prop := fun x => good (fun _ n _ _ => decide (n ≤ 9223372036854775807)) x 0 = true
theorem num_eq (x : Ex) : Num x ↔ x.n ≤ 9223372036854775807 ∧ ∀ y ∈ x.args, Num y := by
  unfold Num
  rw [good_eq, Bool.and_eq_true, goods_mem]
  constructor
  · rintro ⟨h1, h2⟩
    exact ⟨by simpa using h1, fun y hy => (good_const (G := fun _ n _ => decide (n ≤ 9223372036854775807)) y _ _) ▸ h2 y hy⟩
  · rintro ⟨h1, h2⟩
    exact ⟨by simpa using h1, fun y hy => (good_const (G := fun _ n _ => decide (n ≤ 9223372036854775807)) y _ _) ▸ h2 y hy⟩
theorem num_mk {o : Nat} {n : Int} {l : List Ex} (h : n ≤ 9223372036854775807) (hl : ∀ x ∈ l, Num x) : Num (.mk o n l) := (num_eq _).2 ⟨h, hl⟩
def Tn (l : List Tok) : Prop := ∀ t ∈ l, t.n ≤ 9223372036854775807
theorem Tn.tail {l : List Tok} (h : Tn l) : Tn l.tail := fun t ht => h t (List.mem_of_mem_tail ht)
def Nu : Out → Prop
  | .bad _ => True
  | .ok x l => Num x ∧ Tn l
theorem leaf_nu {l : List Tok} (hl : Tn l) {o : Nat} {n : Int} (h : n ≤ 9223372036854775807) : Nu (.ok (.mk o n []) l.tail) := ⟨num_mk h (fun x hx => by cases hx), hl.tail⟩
theorem loopP_nu {f : List Tok → Out} {r : Nat} (hf : ∀ l, Tn l → Nu (f l)) : ∀ (m : Nat) (x : Ex) (l : List Tok), Tn l → Num x → Nu (loopP f r m x l)
  | 0, x, l, hl, hx => ⟨hx, hl⟩
  | m + 1, x, l, hl, hx => by
    by_cases h : opAt r (txt l) = 0
    · rw [loopP_none h]; exact ⟨hx, hl⟩
    · have hh := hf l.tail hl.tail
      cases e : f l.tail with
      | bad l' => rw [loopP_bad h e]; trivial
      | ok y l' =>
        rw [loopP_ok h e]
        rw [e] at hh
        refine loopP_nu hf m _ l' hh.2 (num_mk (by decide) ?_)
        intro z hz
        rcases List.mem_cons.1 hz with rfl | hz
        · exact hx
        · rw [List.mem_singleton.1 hz]; exact hh.1
theorem oneP_nu {f : List Tok → Out} (hf : ∀ l, Tn l → Nu (f l)) (l : List Tok) (hl : Tn l) : Nu (oneP f l) := by
  unfold oneP
  split
  · refine leaf_nu hl ?_
    cases l with
    | nil => show ((0 : Nat) : Int) ≤ _; omega
    | cons t l => have := hl t List.mem_cons_self; show ((t.n : Nat) : Int) ≤ _; omega
  split
  · exact leaf_nu hl (by decide)
  split
  · exact leaf_nu hl (by decide)
  split
  · exact leaf_nu hl (by decide)
  split
  · have hh := hf l.tail hl.tail
    cases e : f l.tail with
    | bad l' => trivial
    | ok x l' =>
      rw [e] at hh
      simp only []
      split
      · exact ⟨hh.1, hh.2.tail⟩
      · trivial
  split
  · have hh := hf l.tail hl.tail
    unfold ifP
    cases e : f l.tail with
    | bad l' => trivial
    | ok a l1 =>
      rw [e] at hh
      simp only []
      split
      · have hh1 := hf l1.tail hh.2.tail
        cases e1 : f l1.tail with
        | bad l' => trivial
        | ok b l2 =>
          rw [e1] at hh1
          simp only []
          split
          · have hh2 := hf l2.tail hh1.2.tail
            cases e2 : f l2.tail with
            | bad l' => trivial
            | ok c l3 =>
              rw [e2] at hh2
              refine ⟨num_mk (by decide) ?_, hh2.2⟩
              intro z hz
              simp only [List.mem_cons, List.not_mem_nil, or_false] at hz
              rcases hz with rfl | rfl | rfl
              · exact hh.1
              · exact hh1.1
              · exact hh2.1
          · trivial
      · trivial
  · trivial
theorem par_nu : ∀ (k r : Nat) (l : List Tok), Tn l → Nu (par k r l) := by
  intro k
  induction k with
  | zero => intro r l _; trivial
  | succ k ih =>
    intro r l hl
    unfold par
    split
    · have hh := ih (r + 1) l hl
      cases e : par k (r + 1) l with
      | bad l' => trivial
      | ok x l' =>
        rw [e] at hh
        exact loopP_nu (fun l2 => ih (r + 1) l2) _ x l' hh.2 hh.1
    split
    · split
      · have hh := ih 5 l.tail hl.tail
        cases e : par k 5 l.tail with
        | bad l' => trivial
        | ok x l' =>
          rw [e] at hh
          exact ⟨num_mk (by decide) (fun z hz => by rw [List.mem_singleton.1 hz]; exact hh.1), hh.2⟩
      split
      · have hh := ih 5 l.tail hl.tail
        cases e : par k 5 l.tail with
        | bad l' => trivial
        | ok x l' =>
          rw [e] at hh
          exact ⟨num_mk (by decide) (fun z hz => by rw [List.mem_singleton.1 hz]; exact hh.1), hh.2⟩
      · exact ih 6 l hl
    · exact oneP_nu (fun l' => ih 0 l') l hl
theorem parseO_num (s : ByteArray) : Num (parseO s).1 := by
  have hz : Num Ex.zero := num_mk (by decide) (fun x hx => by cases hx)
  unfold parseO
  split
  · exact hz
  · have h := par_nu 4000 0 (toksO s).1 (fun t ht => ((toks_ok s).1 t ht).num)
    cases e : par 4000 0 (toksO s).1 with
    | bad l => exact hz
    | ok x l =>
      rw [e] at h
      cases l with
      | nil =>
        simp only []
        split
        · exact hz
        · exact h.1
      | cons t l => exact hz

/-! Sizes. -/
def Asc (l : List Nat) : Prop := ∀ r ∈ l, r < 128
theorem asc_app {a b : List Nat} (ha : Asc a) (hb : Asc b) : Asc (a ++ b) := fun r hr => by
  rcases List.mem_append.1 hr with h | h
  · exact ha r h
  · exact hb r h
theorem asc_size {l : List Nat} (h : Asc l) : (textOf l).size = l.length := by
  rw [textOf_size]
  induction l with
  | nil => rfl
  | cons r l ih =>
    rw [List.flatMap_cons, List.length_append, ih (fun x hx => h x (List.mem_cons_of_mem _ hx)), List.length_cons]
    have : (enc r).length = 1 := by unfold enc; rw [if_pos (h r List.mem_cons_self)]; rfl
    omega
theorem asc_dig (u : Nat) : Asc (digR u) := fun r hr => by have := dig_range ((digR_facts u).1 r hr); omega
theorem asc_lit {l : List Nat} (h : l.all (· < 128) = true) : Asc l := fun r hr => by simpa using List.all_eq_true.1 h r hr
theorem app_size (T s : ByteArray) : (T ++ s).size = T.size + s.size := ByteArray.size_append
/-- What is known of a line told behind T. -/
structure Told (x : Ex) (T : ByteArray) : Prop where
  fits : T.size + x.line.length ≤ 400 → x.tell T = T ++ textOf x.line
  wide : 400 < T.size + x.line.length → 400 < (x.tell T).size
  most : (x.tell T).size + 10 ≤ T.size + 40 * x.size
structure Wove (ss : List (List Nat)) (l : List Ex) (T : ByteArray) : Prop where
  fits : T.size + (weave ss (lines l)).length ≤ 400 → weaveT ss (tellsL l) T = T ++ textOf (weave ss (lines l))
  wide : 400 < T.size + (weave ss (lines l)).length → 400 < (weaveT ss (tellsL l) T).size
  most : (weaveT ss (tellsL l) T).size ≤ T.size + 40 * sizes l + 1
theorem shut1 : (textOf [41]).size = 1 := rfl
theorem wove_end (T : ByteArray) : Wove [] [] T := by
  refine ⟨fun _ => ?_, fun h => ?_, ?_⟩
  · rw [lines_nil, tellsL_nil]; rfl
  · rw [lines_nil] at h
    rw [tellsL_nil]
    change 400 < T.size + 1 at h
    show 400 < (T ++ textOf [41]).size
    rw [app_size, shut1]
    omega
  · rw [tellsL_nil]
    show (T ++ textOf [41]).size ≤ _
    rw [app_size, shut1]
    omega
theorem wove_any : ∀ (ss : List (List Nat)) (l : List Ex), ss.length = l.length → (∀ s ∈ ss, Asc s ∧ s.length ≤ 10) → (∀ y ∈ l, Asc y.line ∧ ∀ T, Told y T) → Asc (weave ss (lines l)) ∧ ∀ T, Wove ss l T
  | [], [], _, _, _ => ⟨by rw [lines_nil]; exact asc_lit rfl, wove_end⟩
  | [], _ :: _, h, _, _ => by simp at h
  | _ :: _, [], h, _, _ => by simp at h
  | s :: ss, y :: l, h, hs, hy => by
    obtain ⟨hs1, hs2⟩ := hs s List.mem_cons_self
    obtain ⟨hy1, hy2⟩ := hy y List.mem_cons_self
    obtain ⟨ha, hw⟩ := wove_any ss l (by simpa using h) (fun x hx => hs x (List.mem_cons_of_mem _ hx)) (fun x hx => hy x (List.mem_cons_of_mem _ hx))
    have e : weave (s :: ss) (lines (y :: l)) = s ++ (y.line ++ weave ss (lines l)) := by rw [lines_cons, weave]
    refine ⟨by rw [e]; exact asc_app hs1 (asc_app hy1 ha), fun T => ?_⟩
    have eT : weaveT (s :: ss) (tellsL (y :: l)) T = if 400 < T.size then T else weaveT ss (tellsL l) (y.tell (T ++ textOf s)) := by rw [tellsL_cons, weaveT]
    have hz : (T ++ textOf s).size = T.size + s.length := by rw [app_size, asc_size hs1]
    obtain ⟨y1, y2, y3⟩ := hy2 (T ++ textOf s)
    obtain ⟨w1, w2, w3⟩ := hw (y.tell (T ++ textOf s))
    rw [hz] at y1 y2 y3
    have es := sizes_cons y l
    have hp := size_pos y
    refine ⟨fun h => ?_, fun h => ?_, ?_⟩
    · rw [e] at h ⊢
      rw [List.length_append, List.length_append] at h
      rw [eT, if_neg (by omega)]
      have hy := y1 (by omega)
      rw [hy] at w1 ⊢
      have hl : (T ++ textOf s ++ textOf y.line).size = T.size + s.length + y.line.length := by rw [app_size, hz, asc_size hy1]
      rw [hl] at w1
      rw [w1 (by omega), ← textOf_app, ← textOf_app, ByteArray.append_assoc, ByteArray.append_assoc]
    · rw [e, List.length_append, List.length_append] at h
      rw [eT]
      by_cases hb : 400 < T.size
      · rw [if_pos hb]; exact hb
      · rw [if_neg hb]
        by_cases hc : T.size + s.length + y.line.length ≤ 400
        · have hy := y1 hc
          have hl : (y.tell (T ++ textOf s)).size = T.size + s.length + y.line.length := by rw [hy, app_size, hz, asc_size hy1]
          exact w2 (by omega)
        · have := y2 (by omega)
          exact w2 (by omega)
    · rw [eT]
      by_cases hb : 400 < T.size
      · rw [if_pos hb]; omega
      · rw [if_neg hb]; omega
theorem sgnR_ok (o : Nat) : ((sgnR o).all (· < 128) && decide ((sgnR o).length ≤ 10)) = true := by
  unfold sgnR
  repeat' split
  all_goals rfl
theorem aheads_ok (o : Nat) : ∀ s ∈ aheads o, Asc s ∧ s.length ≤ 10 := by
  intro s hs
  have hall : (aheads o).all (fun s => s.all (· < 128) && decide (s.length ≤ 10)) = true := by
    have h := sgnR_ok o
    unfold aheads
    generalize sgnR o = S at h ⊢
    split
    · rfl
    split
    · rfl
    split
    · rfl
    · rw [List.all_cons]; exact Bool.and_eq_true_iff.2 ⟨rfl, by rw [List.all_cons, h]; rfl⟩
  have := List.all_eq_true.1 hall s hs
  rw [Bool.and_eq_true] at this
  exact ⟨asc_lit this.1, by simpa using this.2⟩
theorem leaf_told {x : Ex} {L : List Nat} (h1 : x.line = L) (h2 : ∀ T, x.tell T = T ++ textOf L) (h3 : Asc L) (h4 : L.length ≤ 20) : Asc x.line ∧ ∀ T, Told x T := by
  have hp := size_pos x
  refine ⟨by rw [h1]; exact h3, fun T => ?_⟩
  have hz : (x.tell T).size = T.size + L.length := by rw [h2, app_size, asc_size h3]
  exact ⟨fun _ => by rw [h2, h1], fun h => by rw [hz, ← h1]; exact h, by rw [hz]; omega⟩
theorem aheads_len {o : Nat} {n : Int} {m : Nat} (h : fitsB o n m = true) (h4 : 4 < o) : (aheads o).length = m := by
  rw [fitsB_iff'] at h
  obtain ⟨_, _, h⟩ := h
  unfold aheads
  split
  · simp; omega
  split
  · simp; omega
  split
  · simp; omega
  · simp; omega
theorem told_any : ∀ x : Ex, Fit x → Num x → Asc x.line ∧ ∀ T, Told x T := by
  refine Ex.ind fun x ih hf hn => ?_
  have hF := (fit_eq x).1 hf
  have hN := (num_eq x).1 hn
  have hB := hF.1
  rw [fitsB_iff'] at hB
  have e1 := line_eq x
  have e2 := tell_eq x
  unfold lineO at e1
  unfold tellO at e2
  by_cases h1 : x.op = 1
  · rw [if_pos h1] at e1
    have hd := digR_len (u := x.n.toNat) (by omega)
    exact leaf_told e1 (fun T => by rw [e2]; simp only [h1, if_true]) (asc_dig _) hd
  rw [if_neg h1] at e1
  by_cases h2 : x.op = 2
  · rw [if_pos h2] at e1
    exact leaf_told e1 (fun T => by rw [e2]; simp only [h2, if_true]; rfl) (asc_lit rfl) (by decide)
  rw [if_neg h2] at e1
  by_cases h3 : x.op = 3
  · rw [if_pos h3] at e1
    exact leaf_told e1 (fun T => by rw [e2]; simp only [h3, if_true]; rfl) (asc_lit rfl) (by decide)
  rw [if_neg h3] at e1
  by_cases h4 : x.op = 4
  · rw [if_pos h4] at e1
    exact leaf_told e1 (fun T => by rw [e2]; simp only [h4, if_true]; rfl) (asc_lit rfl) (by decide)
  rw [if_neg h4] at e1
  have eT : ∀ T, x.tell T = weaveT (aheads x.op) (tellsL x.args) T := fun T => by rw [e2]; simp only [h1, h2, h3, h4, if_false]
  obtain ⟨ha, hw⟩ := wove_any (aheads x.op) x.args (aheads_len hF.1 (by omega)) (aheads_ok _) (fun y hy => ih y hy (hF.2 y hy) (hN.2 y hy))
  refine ⟨by rw [e1]; exact ha, fun T => ?_⟩
  obtain ⟨w1, w2, w3⟩ := hw T
  have es := size_eq x
  exact ⟨fun h => by rw [eT, e1]; rw [e1] at h; exact w1 h, fun h => by rw [eT]; rw [e1] at h; exact w2 h, by rw [eT]; omega⟩
end Go.Proofs.YtimjpgmgpgpanaaGreatDoor.exp
end
section
namespace Go.Proofs.YtimjpgmgpgpanaaGreatDoor.exp
set_option linter.unusedSimpArgs false
set_option linter.unusedVariables false
open Go.RowKit nam lex

/-- The library's table of powers stands, whatever is made from block B on. -/
def Tab (B : Nat) (w : World) : Prop := Lib.TabBelow Tryz.prog B w "internal/strconv.uint64pow10" .u64 Lib.pow10Tab
theorem fmt_any {B : Nat} {w : World} (h : Tab B w) (u : Nat) (hu : u ≤ 9223372036854775807) : Calls Tryz.prog 125 #[.int .i64 u, .int .i64 10] w fun e w' => e = .returned (.string (textOf (digR u))) ∧ Below w.heap.size w w' := by
  refine (Tryz.strconv_FormatInt_10 (u : Int) (by omega) (by omega) w h.here).mono ?_
  rintro e w' ⟨rfl, k, os, rfl⟩
  exact ⟨by rw [itoa_text], Lib.below_grow _ _ (Nat.le_refl _) _ _⟩

/-- Nothing that was there ahead of block B is turned, nor is any row of texts. -/
structure Step (B : Nat) (w w' : World) : Prop where
  below : Below B w w'
  same : ∀ (k : Nat) (cs : Array Value) (fr : Nat × Nat), w.heap[k]? = some (.cells cs 9 fr) → w'.heap[k]? = w.heap[k]?
theorem Step.refl (B : Nat) (w : World) : Step B w w := ⟨Below.refl B w, fun _ _ _ _ => rfl⟩
theorem Step.trans {B : Nat} {a b c : World} (h : Step B a b) (k : Step B b c) : Step B a c :=
  ⟨h.below.trans k.below, fun i cs fr hi => (k.same i cs fr ((h.same i cs fr hi).trans hi)).trans (h.same i cs fr hi)⟩
theorem Step.of {B : Nat} {w w' : World} (h : Below w.heap.size w w') (hB : B ≤ w.heap.size) : Step B w w' :=
  ⟨h.mono hB, fun k cs fr hk => h.block k (Array.getElem?_eq_some_iff.1 hk).1⟩

/-! The counter. -/
def Cnt (B c : Nat) (T : ByteArray) (w : World) : Prop := B ≤ c ∧ B ≤ w.heap.size ∧ w.heap[c]? = some (.cells #[.int .i64 (T.size : Int)] 125 (0, 0))
theorem Cnt.keep {B c : Nat} {T : ByteArray} {w w' : World} (h : Cnt B c T w) (hb : Below w.heap.size w w') : Cnt B c T w' :=
  ⟨h.1, Nat.le_trans h.2.1 hb.size, (hb.block c (Array.getElem?_eq_some_iff.1 h.2.2).1).trans h.2.2⟩
set_option maxRecDepth 1000000 in
theorem cnt_put {B c : Nat} {T : ByteArray} {w : World} (h : Cnt B c T w) (s : ByteArray) (hs : T.size + s.size ≤ 140737488355328) :
    Calls Tryz.prog 205 #[.pointer (some ⟨c, 0, none⟩), .string s] w fun e w' => e = .returned (.tuple #[.int .i64 s.size, .nilIface]) ∧ Cnt B c (T ++ s) w' ∧ Step B w w' := by
  obtain ⟨hB, hW, hc⟩ := h
  have c0 : w.cell? ⟨c, 0, none⟩ = some (.int .i64 (T.size : Int)) := by simp [World.cell?, hc]
  have f0 : w.frozen? ⟨c, 0, none⟩ = false := by simp [World.frozen?, hc]
  have e : (T.size : Int) + s.size = ((T ++ s).size : Int) := by rw [ByteArray.size_append]; omega
  have hw : IntKind.i64.wrap ((T.size : Int) + s.size) = (T.size : Int) + s.size := IntWalk.i64_in _ ⟨by omega, by omega⟩
  have HC := Lib.hid hc; have HE := Lib.hid e
  clear hc e
  go_enter Tryz.func205, Tryz.ntmps205
  go_wp2_with fail
  go_ret2
  refine ⟨rfl, ⟨hB, by simpa using hW, ?_⟩, (Below.refl B w).setCell (p := ⟨c, 0, none⟩) hB _, fun k cs fr hk => ?_⟩
  · have := HC.out
    rw [← HE.out]
    simp [World.setCell, Array.getElem?_modify, this]
  · refine Below.heap_setCell _ _ _ _ (fun e => ?_)
    have := HC.out
    simp only at e
    subst e
    rw [this] at hk
    cases hk
set_option maxRecDepth 1000000 in
theorem cnt_len {B c : Nat} {T : ByteArray} {w : World} (h : Cnt B c T w) :
    Calls Tryz.prog 85 #[.pointer (some ⟨c, 0, none⟩)] w fun e w' => e = .returned (.int .i64 (T.size : Int)) ∧ w' = w := by
  obtain ⟨hB, hW, hc⟩ := h
  have c0 : w.cell? ⟨c, 0, none⟩ = some (.int .i64 (T.size : Int)) := by simp [World.cell?, hc]
  clear hc
  go_enter Tryz.func85, Tryz.ntmps85
  go_wp2_with fail
  go_ret
  exact ⟨rfl, rfl⟩

/-! The writer: a builder within a struct of its own. -/
theorem builder_size : (Tryz.prog.info? 71).map (·.size) = some 2 := by kernel_rfl
theorem builder_lies : liesAt Tryz.prog Tryz.prog.depth 130 (2 / Tryz.prog.cellsOf 130) 0 71 1 = true := by kernel_rfl
theorem byte_info : (Tryz.prog.info? 5).map (fun i => (i.zero, i.size, i.bytes)) = some (some (.int .u8 0), 1, 1) := by kernel_rfl
set_option maxHeartbeats 1000000 in
set_option maxRecDepth 1000000 in
theorem copy_used (b : Nat) (w : World) (h0 : w.cell? ⟨b, 0, none⟩ = some (.pointer (some ⟨b, 0, none⟩))) :
    Calls Tryz.prog 59 #[.pointer (some ⟨b, 0, none⟩)] w fun e w' => e = .returned (.tuple #[]) ∧ w' = w := by
  obtain ⟨j, hj, _⟩ := Option.map_eq_some_iff.1 builder_size
  go_enter Tryz.func59, Tryz.ntmps59
  go_wp2
  rw [Lib.run_neq_ptr_same w _ Tryz.underlying68 hj]
  go_wp2
  go_end0
  exact ⟨rfl, rfl⟩
set_option maxHeartbeats 1000000 in
set_option maxRecDepth 1000000 in
theorem copy_fresh (b : Nat) (w : World) (h0 : w.cell? ⟨b, 0, none⟩ = some (.pointer none)) (hsh : w.shape? b = some (130, 2)) (hfz : w.frozen? ⟨b, 0, none⟩ = false) :
    Calls Tryz.prog 59 #[.pointer (some ⟨b, 0, none⟩)] w fun e w' => e = .returned (.tuple #[]) ∧ w' = w.setCell ⟨b, 0, none⟩ (.pointer (some ⟨b, 0, none⟩)) := by
  obtain ⟨j, hj, hjs⟩ := Option.map_eq_some_iff.1 builder_size
  go_enter Tryz.func59, Tryz.ntmps59
  go_wp2
  rw [Lib.run_to_unsafe w ⟨b, 0, none⟩ Tryz.underlying68 Tryz.underlying141 hj (by rw [hjs]; decide) hsh (Nat.zero_lt_succ 1)]
  simp only [Result.andThen]
  rw [Oper.upon_value]
  go_wp2
  rw [run_callFunc_extern Tryz.func95 (by kernel_rfl) (by kernel_rfl) (by kernel_rfl) (e := Extern.AbiNoEscape.same) (by kernel_rfl)]
  rw [Lib.run_noEscape]
  simp only [Result.andThen]
  rw [Oper.upon_value]
  go_wp2
  rw [Lib.run_from_unsafe w ⟨b, 0, none⟩ Tryz.underlying141 Tryz.underlying68 hj hsh builder_lies]
  simp only [Result.andThen]
  rw [Oper.upon_value]
  go_wp2
  go_end0
  exact ⟨rfl, rfl⟩
/-- A builder in its writer's block: fresh, or written. -/
abbrev BA (B b : Nat) (p : Value) (bs : List Value) (w : World) : Prop := Lib.BuilderAt 130 5 B b p bs w
theorem step_set {B b i : Nat} {w : World} {cs : Array Value} {T : TypeId} {fr : Nat × Nat} (hB : B ≤ b) (hb : w.heap[b]? = some (.cells cs T fr)) (hT : T ≠ 9) (v : Value) : Step B w (w.setCell ⟨b, i, none⟩ v) :=
  ⟨(Below.refl B w).setCell (p := ⟨b, i, none⟩) hB _, fun k cs fr hk => Below.heap_setCell _ _ _ _ (fun e => by
    simp only at e
    subst e
    rw [hb] at hk
    cases hk
    exact hT rfl)⟩
theorem copy_any {B b : Nat} {bs : List Value} {w : World} (h : Lib.IsBuilder 130 5 B b bs w) :
    Calls Tryz.prog 59 #[.pointer (some ⟨b, 0, none⟩)] w fun e w' => e = .returned (.tuple #[]) ∧ BA B b (.pointer (some ⟨b, 0, none⟩)) bs w' ∧ Step B w w' := by
  rcases h with h | h
  · refine (copy_fresh b w h.cell0 h.shape h.frozen0).mono ?_
    rintro e w' ⟨rfl, rfl⟩
    have hk := h
    obtain ⟨hB, v, hb, _⟩ := hk
    exact ⟨rfl, h.used _, step_set hB hb (by decide) _⟩
  · refine (copy_used b w h.cell0).mono ?_
    rintro e w' ⟨rfl, rfl⟩
    exact ⟨rfl, h, Step.refl B _⟩
/-- A writer that holds these bytes. -/
def Wrt (B b : Nat) (T : ByteArray) (w : World) : Prop := B ≤ w.heap.size ∧ Lib.IsBuilder 130 5 B b (Lib.strCells T) w
theorem ba_keep {B b : Nat} {p : Value} {bs : List Value} {w w' : World} (h : BA B b p bs w) (hb : Below w.heap.size w w') : BA B b p bs w' := by
  have hlt := h.lt
  obtain ⟨hB, v, h1, h2, h3⟩ := h
  exact ⟨hB, v, (hb.block b hlt).trans h1, own_below h2 hb, h3⟩
theorem Wrt.keep {B b : Nat} {T : ByteArray} {w w' : World} (h : Wrt B b T w) (hb : Below w.heap.size w w') : Wrt B b T w' := by
  refine ⟨Nat.le_trans h.1 hb.size, ?_⟩
  rcases h.2 with h | h
  · exact .inl (ba_keep h hb)
  · exact .inr (ba_keep h hb)
theorem strCells_app (a b : ByteArray) : Lib.strCells (a ++ b) = Lib.strCells a ++ Lib.strCells b := by
  rw [Lib.strCells_eq, Lib.strCells_eq, Lib.strCells_eq, append_toList, Lib.byteCells_append]
theorem strCells_len (a : ByteArray) : (Lib.strCells a).length = a.size := by
  rw [Lib.strCells_eq, Lib.byteCells_length]; rfl
/-- An append's step. -/
theorem step_grown {B : Nat} {w w' : World} {v : Value} {n : Nat} {xs : List Value} (hown : w.ownsRow B 5 1 v n xs) (h : w.grownBy w' v.ownBlock) (hB : B ≤ w.heap.size) : Step B w w' := by
  refine ⟨(Below.refl B w).grown h hB (fun k hk => (hown.lt k hk).1), fun k cs fr hk => ?_⟩
  exact h.block k (Array.getElem?_eq_some_iff.1 hk).1 (fun e => Lib.ownBlock_ne hown hk (by decide) e.symm)
set_option maxHeartbeats 2000000 in
set_option maxRecDepth 1000000 in
theorem wrt_put {B b : Nat} {T : ByteArray} {w : World} (h : Wrt B b T w) (s : ByteArray) (hs : T.size + s.size ≤ 140737488355328) :
    Calls Tryz.prog 35 #[.pointer (some ⟨b, 0, none⟩), .string s] w fun e w' => e = .returned (.tuple #[.int .i64 s.size, .nilIface]) ∧ Wrt B b (T ++ s) w' ∧ Step B w w' := by
  obtain ⟨i0, hi, hz0, hz1, hz2⟩ := info_parts byte_info
  obtain ⟨hBw, hI⟩ := h
  go_enter Tryz.func35, Tryz.ntmps35
  go_wp2_with (go_at_call 59; refine (copy_any hI).mono ?_)
  rintro e w1 ⟨rfl, h1, hb1⟩
  obtain ⟨hB, v, hbk, hown, hne⟩ := h1
  have hB1 : B ≤ w1.heap.size := Nat.le_trans hBw hb1.below.size
  have c0 : w1.cell? ⟨b, 0, none⟩ = some (.pointer (some ⟨b, 0, none⟩)) := by rw [Lib.cell_of_heap hbk]; rfl
  have c1 : w1.cell? ⟨b, 1, none⟩ = some v := by rw [Lib.cell_of_heap hbk]; rfl
  have HL : Hid ((Lib.strCells T).length + s.size ≤ 140737488355328) := Lib.hid (by rw [strCells_len]; exact hs)
  go_wp2_with (at_builtin; refine Lib.wpList_append_own_string _ rfl _ _ 69 9 rfl B 5 i0 Tryz.underlying69 Tryz.underlying9 hi hz0 hz1 hz2 _ _ _ rfl hown s rfl ?c3 ?c4 ?c5 ?_)
  case c3 => have := HL.out; unfold maxLen; omega
  case c4 => exact HL.out
  case c5 => exact hB1
  intro v' w2 hown' hgrow _
  have hlt : b < w1.heap.size := (Array.getElem?_eq_some_iff.1 hbk).1
  have hb2 : w2.heap[b]? = some (.cells #[.pointer (some ⟨b, 0, none⟩), v] 130 (0, 0)) := by
    rw [hgrow.block b hlt (fun e => hne e.symm)]
    exact hbk
  have d0 : w2.cell? ⟨b, 0, none⟩ = some (.pointer (some ⟨b, 0, none⟩)) := by rw [Lib.cell_of_heap hb2]; rfl
  have d1 : w2.cell? ⟨b, 1, none⟩ = some v := by rw [Lib.cell_of_heap hb2]; rfl
  have f1 : w2.frozen? ⟨b, 1, none⟩ = false := Lib.frozen_of_heap hb2 1
  obtain ⟨ao, n', cap, rfl⟩ : ∃ ao n' cap, v' = .slice ao n' cap := by
    rcases hown'.2 with ⟨hv, _⟩ | ⟨g, cap, cur, hv, _⟩
    · exact ⟨_, _, _, hv⟩
    · exact ⟨_, _, _, hv⟩
  have HS2 := Lib.hid (hb1.trans (step_grown hown hgrow hB1))
  go_wp2
  go_ret2
  refine ⟨rfl, ⟨?_, .inr ?_⟩, HS2.out.trans (step_set hB hb2 (by decide) _)⟩
  · have := HS2.out.below.size
    simp [World.setCell]
    omega
  · rw [strCells_app]
    exact Lib.BuilderAt.put (T := 130) (e := 5) hB hb2 (bs' := Lib.strCells T ++ Lib.strCells s) (by simpa [Lib.strCells_length] using hown') (by decide)
set_option maxHeartbeats 1000000 in
set_option maxRecDepth 1000000 in
theorem wrt_len {B b : Nat} {T : ByteArray} {w : World} (h : Wrt B b T w) :
    Calls Tryz.prog 36 #[.pointer (some ⟨b, 0, none⟩)] w fun e w' => e = .returned (.int .i64 (T.size : Int)) ∧ w' = w := by
  obtain ⟨p, hB, v, hbk, hown, hne⟩ : ∃ p, BA B b p (Lib.strCells T) w := by
    rcases h.2 with h | h
    · exact ⟨_, h⟩
    · exact ⟨_, h⟩
  rw [strCells_len] at hown
  obtain ⟨ao, cap, rfl⟩ : ∃ ao cap, v = .slice ao T.size cap := by
    rcases hown.2 with ⟨hv, h0⟩ | ⟨g, cap, cur, hv, _⟩
    · exact ⟨none, 0, by rw [hv, h0]⟩
    · exact ⟨_, _, hv⟩
  have c1 : w.cell? ⟨b, 1, none⟩ = some (.slice ao T.size cap) := by rw [Lib.cell_of_heap hbk]; rfl
  clear hown hbk hne h
  go_enter Tryz.func36, Tryz.ntmps36
  go_wp2
  go_ret
  exact ⟨rfl, rfl⟩
end Go.Proofs.YtimjpgmgpgpanaaGreatDoor.exp
end
section
namespace Go.Proofs.YtimjpgmgpgpanaaGreatDoor.exp
set_option linter.unusedSimpArgs false
set_option linter.unusedVariables false
open Go.RowKit nam lex

set_option maxHeartbeats 2000000 in
set_option maxRecDepth 1000000 in
theorem wrt_grow0 {B b : Nat} {w : World} (n : Nat) (hB : B ≤ b) (hbk : w.heap[b]? = some (.cells #[.pointer (some ⟨b, 0, none⟩), .slice none 0 0] 130 (0, 0))) (hBw : B ≤ w.heap.size) (hn : n ≤ 281474976710656) :
    Calls Tryz.prog 60 #[.pointer (some ⟨b, 0, none⟩), .int .i64 n] w fun e w' => e = .returned (.tuple #[]) ∧ BA B b (.pointer (some ⟨b, 0, none⟩)) [] w' ∧ Below B w w' := by
  obtain ⟨cs, hrun, hle, hmax⟩ := Lib.run_makeNoZero (P := Tryz.prog) w.drew #[3] 69 5 Tryz.underlying69 n hn
  have hw : IntKind.i64.wrap (IntKind.i64.wrap 0 + (n : Int)) = n := by
    rw [IntKind.wrap_i64, IntKind.wrap_i64]
    omega
  have hcall : (callFunc 96 #[.int .i64 (IntKind.i64.wrap (IntKind.i64.wrap 0 + (n : Int)))]).run Tryz.prog w.drew = .ok (.value (.slice (some ⟨w.drew.heap.size, 0, none⟩) n cs.size)) (w.drew.drew.drew.alloc (.cells cs 5)) := by
    rw [hw, run_callFunc_extern Tryz.func96 (by kernel_rfl) (by kernel_rfl) (by kernel_rfl) (e := Extern.BytealgMakeNoZero.makeNoZero #[3] #[69]) (by kernel_rfl), hrun]
    rfl
  have c1 : w.drew.cell? ⟨b, 1, none⟩ = some (.slice none 0 0) := by
    have : w.drew.heap[b]? = _ := hbk
    rw [Lib.cell_of_heap this]; rfl
  have hlt : b < w.heap.size := (Array.getElem?_eq_some_iff.1 hbk).1
  have c2 : (w.alloc (.cells cs 5)).cell? ⟨b, 1, none⟩ = some (.slice none 0 0) := by
    have : (w.alloc (.cells cs 5)).heap[b]? = _ := (Lib.alloc_old w _ b hlt).trans hbk
    rw [Lib.cell_of_heap this]; rfl
  have f2 : (w.alloc (.cells cs 5)).frozen? ⟨b, 1, none⟩ = false := Lib.frozen_of_heap ((Lib.alloc_old w _ b hlt).trans hbk) 1
  have hcopy : ∀ W : World, (Builtin.copy_ #[69, 69] 3 #[.slice (some ⟨w.heap.size, 0, none⟩) 0 cs.size, .slice none 0 0]).run Tryz.prog W = .ok (goInt 0) W :=
    fun W => run_copy_none W 69 69 3 5 _ _ 0 cs.size 0 0 Tryz.underlying69 (by kernel_rfl) rfl
  clear hw
  go_enter Tryz.func60, Tryz.ntmps60
  go_wp2
  have hfin := Lib.grown_fresh (T := 130) (e := 5) (cs := cs) hB hbk hBw (hmax (by unfold maxLen; omega)) (by decide)
  rw [World.setCell_alloc_past _ _ _ _ hlt] at hfin
  go_region
  all_goals (go_wp2; go_end0; exact ⟨rfl, hfin⟩)
set_option maxHeartbeats 2000000 in
set_option maxRecDepth 1000000 in
theorem wrt_grow {B b : Nat} {w : World} (n : Nat) (hB : B ≤ b) (hbk : w.heap[b]? = some (.cells #[.pointer none, .slice none 0 0] 130 (0, 0))) (hBw : B ≤ w.heap.size) (hn : n ≤ 281474976710656) :
    Calls Tryz.prog 34 #[.pointer (some ⟨b, 0, none⟩), .int .i64 n] w fun e w' => e = .returned (.tuple #[]) ∧ BA B b (.pointer (some ⟨b, 0, none⟩)) [] w' ∧ Below B w w' := by
  have hbk1 : (w.setCell ⟨b, 0, none⟩ (.pointer (some ⟨b, 0, none⟩))).heap[b]? = some (.cells #[.pointer (some ⟨b, 0, none⟩), .slice none 0 0] 130 (0, 0)) := by
    simp [World.setCell, Array.getElem?_modify, hbk]
  have hb1 : Below B w (w.setCell ⟨b, 0, none⟩ (.pointer (some ⟨b, 0, none⟩))) := (Below.refl B w).setCell (p := ⟨b, 0, none⟩) hB _
  have hU : BA B b (.pointer (some ⟨b, 0, none⟩)) [] (w.setCell ⟨b, 0, none⟩ (.pointer (some ⟨b, 0, none⟩))) := ⟨hB, .slice none 0 0, hbk1, World.ownsRow_nil _ _ _ _, by simp [Value.ownBlock]⟩
  have hcc := copy_fresh b w (by rw [Lib.cell_of_heap hbk]; rfl) (by simp [World.shape?, hbk]) (Lib.frozen_of_heap hbk 0)
  have hBw1 : B ≤ (w.setCell ⟨b, 0, none⟩ (.pointer (some ⟨b, 0, none⟩))).heap.size := by simpa using hBw
  generalize w.setCell ⟨b, 0, none⟩ (.pointer (some ⟨b, 0, none⟩)) = w1 at *
  have c1' : w1.drew.cell? ⟨b, 1, none⟩ = some (.slice none 0 0) := by
    have : w1.drew.heap[b]? = _ := hbk1
    rw [Lib.cell_of_heap this]; rfl
  have HG := Lib.hid (wrt_grow0 (B := B) (w := w1.drew) n hB hbk1 hBw1 hn)
  go_enter Tryz.func34, Tryz.ntmps34
  go_wp2_with (go_at_call 59; refine hcc.mono ?_; rintro e w' ⟨rfl, rfl⟩)
  go_region
  all_goals go_wp2_with (go_at_call 60; refine HG.out.mono ?_; rintro e w' ⟨rfl, h1, h2⟩)
  all_goals first
    | (go_end0; exact ⟨rfl, h1, hb1.drew.trans h2⟩)
    | (go_end0; exact ⟨rfl, hU.drew, hb1.drew⟩)
set_option maxHeartbeats 1000000 in
set_option maxRecDepth 1000000 in
theorem wrt_string {B b : Nat} {T : ByteArray} {w : World} (h : Wrt B b T w) (h0 : T.size ≠ 0) :
    Calls Tryz.prog 37 #[.pointer (some ⟨b, 0, none⟩)] w fun e w' => e = .returned (.string T) ∧ Below B w w' := by
  obtain ⟨l, hl⟩ : ∃ l, T.data.toList = l := ⟨_, rfl⟩
  have hT : T = ⟨l.toArray⟩ := by rw [← hl]
  have hlen : l.length = T.size := by rw [← hl]; rfl
  obtain ⟨p, hB, v, hbk, hown, hne⟩ : ∃ p, BA B b p (Lib.byteCells l) w := by
    rw [← hl, ← Lib.strCells_eq]
    rcases h.2 with h | h
    · exact ⟨_, h⟩
    · exact ⟨_, h⟩
  have hl0 : l.length ≠ 0 := by omega
  have hl1 : l ≠ [] := fun e => hl0 (by rw [e]; rfl)
  rw [hT]
  clear h0 hT hl hlen h
  rw [Lib.byteCells_length] at hown
  obtain ⟨g, cap, cur, rfl, hbg, hg, hnc, hcm, hcs, htake⟩ : ∃ g cap cur, v = .slice (some ⟨g, 0, none⟩) l.length cap ∧ B ≤ g ∧ w.heap[g]? = some (.cells cur 5 (0, 0)) ∧ l.length ≤ cap ∧ cap ≤ maxLen ∧ cur.size = cap * 1 ∧ cur.toList.take (l.length * 1) = Lib.byteCells l := by
    rcases hown.2 with ⟨_, hz⟩ | ⟨g, cap, cur, hv, r⟩
    · exact absurd hz hl0
    · exact ⟨g, cap, cur, hv, r⟩
  have c1 : w.drew.cell? ⟨b, 1, none⟩ = some (.slice (some ⟨g, 0, none⟩) l.length cap) := by
    have : w.drew.heap[b]? = some (.cells #[p, .slice (some ⟨g, 0, none⟩) l.length cap] 130 (0, 0)) := hbk
    rw [Lib.cell_of_heap this]; rfl
  have hSD : (Builtin.unsafeSliceData_ #[69] 101 #[.slice (some ⟨g, 0, none⟩) l.length cap]).run Tryz.prog w.drew = .ok (.pointer (some ⟨g, 0, none⟩)) w.drew :=
    Lib.run_unsafeSliceData_row _ _ _ _ _ _ (by omega)
  have hUS : (Builtin.unsafeString_ #[101, 3] 9 #[.pointer (some ⟨g, 0, none⟩), .int .i64 l.length]).run Tryz.prog w.drew = .ok (.string ⟨l.toArray⟩) (w.drew.freeze ⟨g, 0, none⟩ l.length) := by
    refine Lib.run_unsafeString_row w.drew 101 3 9 5 Tryz.underlying101 (by kernel_rfl) g cur.size (by have hg' : w.drew.heap[g]? = some (.cells cur 5 (0, 0)) := hg; simp [World.shape?, hg']) l hl1 (by omega) (by unfold maxLen at hcm; omega) ?_
    intro j x hx
    have := hown.cells (g := g) rfl j (.int .u8 x.toNat) (by simp [Lib.byteCells, hx])
    exact this
  go_enter Tryz.func37, Tryz.ntmps37
  go_wp2
  go_region
  all_goals (go_wp2; go_ret; exact ⟨rfl, Lib.below_freeze (Below.drew (Below.refl B w)) (p := ⟨g, 0, none⟩) hbg _⟩)
end Go.Proofs.YtimjpgmgpgpanaaGreatDoor.exp
end
section
namespace Go.Proofs.YtimjpgmgpgpanaaGreatDoor.exp
set_option linter.unusedSimpArgs false
set_option linter.unusedVariables false
open Go.RowKit nam lex

/-- Who listens keeps what it was told, and tells how long that is. -/
structure Hears (B : Nat) (t : TypeId) (r : Value) (st : ByteArray → World → Prop) : Prop where
  fn : ∃ (Kw Kl : FuncId) (r1 r2 : Value), (∀ w, (nilAhead 345 t r "WriteString").run Tryz.prog w = .ok (some false) w) ∧ (∀ w, (method 345 t r "WriteString").run Tryz.prog w = .ok (Kw, r1) w) ∧ (∀ w, (method 345 t r "Len").run Tryz.prog w = .ok (Kl, r2) w) ∧
    (∀ args w, (callFunc Kw args).run Tryz.prog w = .ok (.enter Kw args) w) ∧ (∀ args w, (callFunc Kl args).run Tryz.prog w = .ok (.enter Kl args) w) ∧
    Hid (∀ T s w, st T w → T.size + s.size ≤ 140737488355328 → Calls Tryz.prog Kw #[r1, .string s] w fun e w' => e = .returned (.tuple #[.int .i64 s.size, .nilIface]) ∧ st (T ++ s) w' ∧ Step B w w') ∧
    Hid (∀ T w, st T w → Calls Tryz.prog Kl #[r2] w fun e w' => e = .returned (.int .i64 (T.size : Int)) ∧ w' = w)
  keep : ∀ T w w', st T w → Below w.heap.size w w' → st T w'
  low : ∀ T w, st T w → B ≤ w.heap.size
theorem cnt_hears (B c : Nat) : Hears B 123 (.pointer (some ⟨c, 0, none⟩)) (Cnt B c) :=
  ⟨⟨205, 85, .pointer (some ⟨c, 0, none⟩), .pointer (some ⟨c, 0, none⟩), fun _ => by kernel_rfl, fun _ => by kernel_rfl, fun _ => by kernel_rfl,
    enters_of Tryz.func205 (by kernel_rfl) rfl, enters_of Tryz.func85 (by kernel_rfl) rfl, Lib.hid (fun T s w h hs => cnt_put h s hs), Lib.hid (fun T w h => cnt_len h)⟩, fun _ _ _ h hb => h.keep hb, fun _ _ h => h.2.1⟩
theorem wrt_hears (B b : Nat) : Hears B 128 (.pointer (some ⟨b, 0, none⟩)) (Wrt B b) :=
  ⟨⟨35, 36, .pointer (some ⟨b, 0, none⟩), .pointer (some ⟨b, 0, none⟩), fun _ => by kernel_rfl, fun _ => by kernel_rfl, fun _ => by kernel_rfl,
    enters_of Tryz.func35 (by kernel_rfl) rfl, enters_of Tryz.func36 (by kernel_rfl) rfl, Lib.hid (fun T s w h hs => wrt_put h s hs), Lib.hid (fun T w h => wrt_len h)⟩, fun _ _ _ h hb => h.keep hb, fun _ _ h => h.1⟩

section
variable {B : Nat} {t : TypeId} {r : Value} {st : ByteArray → World → Prop}
set_option maxRecDepth 1000000 in
theorem wide_at (H : Hears B t r st) {T : ByteArray} {w : World} (h : st T w) : Calls Tryz.prog 84 #[.iface t r] w fun e w' => e = .returned (.bool (decide (400 < T.size))) ∧ w' = w := by
  obtain ⟨Kw, Kl, r1, r2, m0, m1, m2, f1, f2, HW, HL⟩ := H.fn
  have HT := Lib.hid (HL.out T w h)
  go_enter Tryz.func84, Tryz.ntmps84
  go_wp2_with fail
  refine HT.out.mono ?_
  rintro e w' ⟨rfl, rfl⟩
  go_wp2_with fail
  go_ret
  exact ⟨ret_bool (by rw [Bool.eq_iff_iff, decide_eq_true_eq, decide_eq_true_eq]; omega), rfl⟩
/-- A row of texts. -/
def Txs (w : World) (g : Nat) (xs : List (List Nat)) : Prop := ∃ fr, w.heap[g]? = some (.cells (xs.map fun s => Value.string (textOf s)).toArray 9 fr)
theorem Txs.step {w w' : World} {g : Nat} {xs : List (List Nat)} (h : Txs w g xs) (hs : Step B w w') : Txs w' g xs := by
  obtain ⟨fr, h⟩ := h
  exact ⟨fr, (hs.same _ _ _ h).trans h⟩
theorem Txs.cell {w : World} {g i : Nat} {xs : List (List Nat)} (h : Txs w g xs) (hi : i < xs.length) : w.cell? ⟨g, i, none⟩ = some (.string (textOf xs[i])) := by
  obtain ⟨fr, h⟩ := h
  refine cell_of h ?_
  simp [hi]
theorem tab_step {w w' : World} (h : Tab B w) (hs : Step B w w') : Tab B w' := Lib.TabBelow.on h hs.below
theorem at_step {w w' : World} {b o : Nat} {x : Ex} (h : At w (fun k => k < B) b o x) (hs : Step B w w') : At w' (fun k => k < B) b o x := h.frame fun k c hk _ => hs.below.block k hk
theorem lies_step {w w' : World} {v : Value} {l : List Ex} (h : Lies w (fun k => k < B) v l) (hs : Step B w w') : Lies w' (fun k => k < B) v l := h.frame fun k c hk _ => hs.below.block k hk
/-- y's telling. -/
def TK (y : Ex) : Prop := ∀ {B : Nat} {t : TypeId} {r : Value} {st : ByteArray → World → Prop}, Hears B t r st → ∀ {w : World} {T : ByteArray} {b o : Nat}, At w (fun k => k < B) b o y → st T w → Tab B w → T.size + 40 * y.size ≤ 1000000000 →
  Calls Tryz.prog 83 #[.pointer (some ⟨b, o, none⟩), .iface t r] w fun e w' => e = .returned (.tuple #[]) ∧ st (y.tell T) w' ∧ Step B w w'
/-- What holds at each round's head. -/
structure RowIn (B : Nat) (st : ByteArray → World → Prop) (w : World) (ss : List (List Nat)) (l : List Ex) (T : ByteArray) (j : Nat) (Tj : ByteArray) (wr : World) : Prop where
  le : j ≤ l.length
  st : st Tj wr
  step : Step B w wr
  rest : weaveT (ss.drop j) (tellsL (l.drop j)) Tj = weaveT ss (tellsL l) T
  size : Tj.size + 40 * sizes (l.drop j) + 11 ≤ 1000000000
theorem drop_of {α : Type} {l : List α} {j : Nat} (h : j < l.length) : l.drop j = l[j] :: l.drop (j + 1) := List.drop_eq_getElem_cons h
theorem RowIn.next {w wr w1 : World} {ss : List (List Nat)} {l : List Ex} {T Tj : ByteArray} {j : Nat} (h : RowIn B st w ss l T j Tj wr) (h1 : j < ss.length) (h2 : j < l.length) (hn : ¬ 400 < Tj.size) (hs : Asc ss[j] ∧ ss[j].length ≤ 10) (ht : ∀ T, Told l[j] T)
    (hst : st (l[j].tell (Tj ++ textOf ss[j])) w1) (hb : Step B wr w1) : RowIn B st w ss l T (j + 1) (l[j].tell (Tj ++ textOf ss[j])) w1 := by
  obtain ⟨a1, a2, a3, a4, a5⟩ := h
  rw [drop_of h1, drop_of h2, tellsL_cons, weaveT, if_neg hn] at a4
  rw [drop_of h2, sizes_cons] at a5
  have := (ht (Tj ++ textOf ss[j])).most
  rw [app_size, asc_size hs.1] at this
  exact ⟨by omega, hst, a3.trans hb, a4, by omega⟩
theorem RowIn.wide {w wr : World} {ss : List (List Nat)} {l : List Ex} {T Tj : ByteArray} {j : Nat} (h : RowIn B st w ss l T j Tj wr) (h1 : j < ss.length) (h2 : j < l.length) (hn : 400 < Tj.size) : st (weaveT ss (tellsL l) T) wr := by
  obtain ⟨a1, a2, a3, a4, a5⟩ := h
  rw [drop_of h1, drop_of h2, tellsL_cons, weaveT, if_pos hn] at a4
  rw [← a4]; exact a2
theorem RowIn.done {w wr : World} {ss : List (List Nat)} {l : List Ex} {T Tj : ByteArray} {j : Nat} (h : RowIn B st w ss l T j Tj wr) (h1 : ss.length = l.length) (h2 : ¬ j < l.length) : Tj ++ textOf [41] = weaveT ss (tellsL l) T := by
  obtain ⟨a1, a2, a3, a4, a5⟩ := h
  rw [List.drop_eq_nil_of_le (by omega), List.drop_eq_nil_of_le (by omega), tellsL_nil] at a4
  exact a4
set_option maxHeartbeats 1600000 in
set_option maxRecDepth 1000000 in
theorem row_any (H : Hears B t r st) {l : List Ex} {ss : List (List Nat)} (hl : ss.length = l.length) (hs : ∀ s ∈ ss, Asc s ∧ s.length ≤ 10) (hk : ∀ y ∈ l, TK y ∧ ∀ T, Told y T) {w : World} {T : ByteArray} {a : Option Addr} {c g k : Nat} (hL : Lies w (fun k => k < B) (.slice a l.length c) l) (hg : Txs w g ss)
    (hst : st T w) (htab : Tab B w) (hsz : T.size + 40 * sizes l + 11 ≤ 1000000000) :
    Calls Tryz.prog 126 #[.slice a l.length c, .iface t r, .slice (some ⟨g, 0, none⟩) l.length k] w fun e w' => e = .returned (.tuple #[]) ∧ st (weaveT ss (tellsL l) T) w' ∧ Step B w w' := by
  have hH := H
  obtain ⟨Kw, Kl, r1, r2, m0, m1, m2, f1, f2, HW, HL⟩ := H.fn
  have HH := Lib.hid H
  have HS := Lib.hid hs; have HK := Lib.hid hk; have HLL := Lib.hid hL; have HG := Lib.hid hg; have HTAB := Lib.hid htab; have HLS := Lib.hid hl
  have HIN : Hid (RowIn B st w ss l T 0 T w) := Lib.hid ⟨Nat.zero_le _, hst, Step.refl B w, rfl, by simpa using hsz⟩
  obtain ⟨n, hn⟩ : ∃ n, l.length = n := ⟨_, rfl⟩
  have HN := Lib.hid hn
  have hn9 : n ≤ 1000000000 := by have := sizes_len l; omega
  rw [hn]
  clear hs hk hL hg htab hl hst hsz hH H hn
  go_enter Tryz.func126, Tryz.ntmps126
  go_wp2_with fail
  go_loopg [10] n (fun gk v10 wr => ∃ (j : Nat) (Tj : ByteArray), j + gk = n ∧ v10 = .int .i64 (j : Int) ∧ RowIn B st w ss l T j Tj wr)
  case atStart => exact ⟨0, T, by omega, rfl, HIN.out⟩
  case round =>
    rename World => wr
    obtain ⟨j, Tj, hj, rfl, hin⟩ := hrel
    have HI := Lib.hid hin
    by_cases hjn : j < n
    · have hji : (j : Int) < (n : Int) := by omega
      have hj1 : j < ss.length := by rw [HLS.out, HN.out]; exact hjn
      have hj2 : j < l.length := by rw [HN.out]; exact hjn
      have hc := ((HG.out.step hin.step).cell hj1)
      obtain ⟨S, hS⟩ : ∃ S, ss[j] = S := ⟨_, rfl⟩
      obtain ⟨Y, hY⟩ : ∃ Y, l[j] = Y := ⟨_, rfl⟩
      obtain ⟨X, hX⟩ : ∃ X, textOf S = X := ⟨_, rfl⟩
      rw [hS, hX] at hc
      have HWD := Lib.hid (wide_at HH.out hin.st)
      by_cases hwd : 400 < Tj.size
      · rw [decide_eq_true hwd] at HWD
        have HE := Lib.hid (hin.wide hj1 hj2 hwd)
        clear hin hwd hS hY hX hj1 hj2
        go_wp2_with fail
        refine HWD.out.mono ?_
        rintro e w' ⟨rfl, rfl⟩
        go_wp2_with fail
        try rw [Exit.noGoto_ret]
        exact bodyPost_ret (results_none rfl _ _ _) rfl ⟨rfl, HE.out, HI.out.step⟩
      · rw [decide_eq_false hwd] at HWD
        obtain ⟨hs1, hs2⟩ := HS.out ss[j] (List.getElem_mem hj1)
        obtain ⟨hk1, hk2⟩ := HK.out l[j] (List.getElem_mem hj2)
        rw [hS] at hs1 hs2
        rw [hY] at hk1 hk2
        have hzz := hin.size
        rw [drop_of hj2, sizes_cons, hY] at hzz
        have hxs : X.size = S.length := by rw [← hX, asc_size hs1]
        have hap : (Tj ++ X).size = Tj.size + X.size := app_size _ _
        have HP := Lib.hid (HW.out Tj X wr hin.st (by omega))
        obtain ⟨a', c', hac, hfm⟩ := (lies_step HLL.out hin.step).form
        obtain ⟨rfl, rfl⟩ : a = a' ∧ c = c' := by simpa using hac
        obtain ⟨b1, rfl, hat⟩ := hfm (by omega)
        have hb1 := hat j hj2
        rw [hY] at hb1
        have HT : Hid (∀ w1, st (Tj ++ X) w1 → Step B wr w1 → Calls Tryz.prog 83 #[.pointer (some ⟨b1, j * 3, none⟩), .iface t r] w1 fun e w' => e = .returned (.tuple #[]) ∧ RowIn B st w ss l T (j + 1) (Y.tell (Tj ++ X)) w') := Lib.hid (fun w1 h1 h2 =>
          (hk1 HH.out (at_step hb1 h2) h1 (tab_step (tab_step HTAB.out hin.step) h2) (by omega)).mono fun e w' h => ⟨h.1, by
            have hz := RowIn.next hin hj1 hj2 hwd (by rw [hS]; exact ⟨hs1, hs2⟩) (by rw [hY]; exact hk2) (w1 := w') (by rw [hY, hS, hX]; exact h.2.1) (h2.trans h.2.2)
            rw [hY, hS, hX] at hz
            exact hz⟩)
        clear hin hwd hS hY hX hj1 hj2 hs1 hs2 hk1 hk2 hzz hxs hap hb1 hat hfm
        go_wp2_with fail
        refine HWD.out.mono ?_
        rintro e w' ⟨rfl, rfl⟩
        go_wp2_with fail
        refine HP.out.mono ?_
        rintro e w1 ⟨rfl, h1, h2⟩
        have HT1 := Lib.hid (HT.out w1 h1 h2)
        clear h1 h2
        go_wp2_with fail
        refine HT1.out.mono ?_
        rintro e w2 ⟨rfl, h3⟩
        have HR := Lib.hid h3
        clear h3
        go_wp2_with fail
        go_roundg (gk - 1)
        case rel => exact ⟨j + 1, _, by omega, by go_num, HR.out⟩
        case measure => omega
    · have hji : ¬ (j : Int) < (n : Int) := by omega
      have hap : (Tj ++ textOf [41]).size = Tj.size + 1 := by rw [app_size, shut1]
      have hzz := hin.size
      have HP := Lib.hid (HW.out Tj (textOf [41]) wr hin.st (by rw [shut1]; omega))
      have HD := Lib.hid (hin.done HLS.out (by rw [HN.out]; exact hjn))
      rw [show textOf [41] = (⟨#[41]⟩ : ByteArray) from rfl] at HP HD
      clear hin hjn hap hzz
      go_wp2_with fail
      refine HP.out.mono ?_
      rintro e w1 ⟨rfl, h1, h2⟩
      rw [HD.out] at h1
      have HZ := Lib.hid (And.intro h1 (HI.out.step.trans h2))
      clear h1 h2
      go_wp2_with fail
      try rw [Exit.noGoto_ret]
      go_end0
      exact ⟨rfl, HZ.out⟩
end
end Go.Proofs.YtimjpgmgpgpanaaGreatDoor.exp
end
section
namespace Go.Proofs.YtimjpgmgpgpanaaGreatDoor.exp
set_option linter.unusedSimpArgs false
set_option linter.unusedVariables false
open Go.RowKit nam lex

set_option maxRecDepth 1000000 in
theorem sign_at (o : Nat) (h : 7 ≤ o ∧ o ≤ 17) (w : World) : Calls Tryz.prog 127 #[.int .u8 (o : Int)] w fun e w' => e = .returned (.string (textOf (sgnR o))) ∧ w' = w := by
  rcases (show o = 7 ∨ o = 8 ∨ o = 9 ∨ o = 10 ∨ o = 11 ∨ o = 12 ∨ o = 13 ∨ o = 14 ∨ o = 15 ∨ o = 16 ∨ o = 17 by omega) with h | h | h | h | h | h | h | h | h | h | h <;> subst h <;> push_cast
  all_goals (go_enter Tryz.func127, Tryz.ntmps127; go_wp2; go_ret; exact ⟨rfl, rfl⟩)
section
variable {B : Nat} {t : TypeId} {r : Value} {st : ByteArray → World → Prop}
/-- What row does with an expression's parts. -/
theorem row_at (H : Hears B t r st) {x : Ex} (hf : Fit x) (hn : Num x) (h4 : 4 < x.op) (ih : ∀ y ∈ x.args, TK y) {w : World} {T : ByteArray} {b o : Nat} (hA : At w (fun k => k < B) b o x) (hst : st T w) (htab : Tab B w) (hsz : T.size + 40 * x.size ≤ 1000000000)
    {a : Option Addr} {c : Nat} (hL : Lies w (fun k => k < B) (.slice a x.args.length c) x.args) {W : World} (hW : Below w.heap.size w W) {g k : Nat} (hg : Txs W g (aheads x.op)) :
    Calls Tryz.prog 126 #[.slice a x.args.length c, .iface t r, .slice (some ⟨g, 0, none⟩) x.args.length k] W fun e w' => e = .returned (.tuple #[]) ∧ st (x.tell T) w' ∧ Step B w w' := by
  have hF := (fit_eq x).1 hf
  have hN := (num_eq x).1 hn
  have hs := Step.of (B := B) hW (H.low _ _ hst)
  have eT : x.tell T = weaveT (aheads x.op) (tellsL x.args) T := by
    rw [tell_eq]; unfold tellO
    rw [if_neg (by omega), if_neg (by omega), if_neg (by omega), if_neg (by omega)]
  have hse := size_eq x
  refine (row_any H (aheads_len hF.1 h4) (aheads_ok _) (fun y hy => ⟨ih y hy, (told_any y (hF.2 y hy) (hN.2 y hy)).2⟩) (lies_step hL hs) hg (H.keep _ _ _ hst hW) (tab_step htab hs) (by omega)).mono ?_
  rintro e w' ⟨rfl, h1, h2⟩
  exact ⟨rfl, by rw [eT]; exact h1, hs.trans h2⟩
set_option maxHeartbeats 1600000 in
set_option maxRecDepth 1000000 in
theorem tell_num (H : Hears B t r st) {x : Ex} (hn : Num x) (hp : 0 ≤ x.n) (ho : x.op = 1) {w : World} {T : ByteArray} {b o : Nat} (hA : At w (fun k => k < B) b o x) (hst : st T w) (htab : Tab B w) (hsz : T.size + 40 * x.size ≤ 1000000000) :
    Calls Tryz.prog 83 #[.pointer (some ⟨b, o, none⟩), .iface t r] w fun e w' => e = .returned (.tuple #[]) ∧ st (x.tell T) w' ∧ Step B w w' := by
  obtain ⟨Kw, Kl, r1, r2, m0, m1, m2, f1, f2, HW, HL⟩ := H.fn
  obtain ⟨a, c, p0, p1, p2, _⟩ := hA.cells
  rw [ho] at p0
  push_cast at p0
  have hm := ((num_eq x).1 hn).1
  obtain ⟨u, hu⟩ : ∃ u : Nat, x.n = u := ⟨x.n.toNat, by omega⟩
  have eT : x.tell T = T ++ textOf (digR u) := by
    rw [tell_eq]; unfold tellO
    rw [if_pos ho, hu, Int.toNat_natCast]
  have hd := digR_len (u := u) (by omega)
  have hds := asc_size (asc_dig u)
  rw [hu] at p1
  obtain ⟨X, hX⟩ : ∃ X, textOf (digR u) = X := ⟨_, rfl⟩
  rw [eT, hX]
  rw [hX] at hds
  have H0 : Hid (∀ w', Below w.heap.size w w' → Calls Tryz.prog 125 #[.int .i64 (u : Int), .int .i64 10] w' fun e w'' => e = .returned (.string X) ∧ Below w.heap.size w w'') :=
    Lib.hid fun w' hw => (fmt_any (tab_step htab (Step.of hw (H.low _ _ hst))) u (by omega)).mono fun e w'' h => ⟨by rw [h.1, hX], hw.trans (h.2.mono hw.size)⟩
  have H1 : Hid (∀ w', Below w.heap.size w w' → Calls Tryz.prog Kw #[r1, .string X] w' fun e w'' => e = .returned (.tuple #[.int .i64 X.size, .nilIface]) ∧ st (T ++ X) w'' ∧ Step B w w'') :=
    Lib.hid fun w' hw => (HW.out T X w' (H.keep _ _ _ hst hw) (by omega)).mono fun e w'' h => ⟨h.1, h.2.1, (Step.of hw (H.low _ _ hst)).trans h.2.2⟩
  have hlt := hA.lt
  have HC : Hid (∀ w', Below w.heap.size w w' → w'.cell? ⟨b, o + 1, none⟩ = some (.int .i64 (u : Int))) := Lib.hid fun w' hw => (hw.cell (p := ⟨b, o + 1, none⟩) hlt).trans p1
  have HC2 : Hid (∀ w', Step B w w' → w'.cell? ⟨b, o + 1, none⟩ = some (.int .i64 (u : Int))) := Lib.hid fun w' hw => (hw.below.cell (p := ⟨b, o + 1, none⟩) (by obtain ⟨_, _, h, _⟩ := hA; exact h)).trans p1
  have HR : Hid (Below w.heap.size w w) := Lib.hid (Below.refl _ _)
  clear hA hst htab hsz hn hp ho hm hu eT hd hds hX p2 hlt H HW HL
  go_enter Tryz.func83, Tryz.ntmps83
  go_upto_region 3 with fail
  go_region_held3 (fun w' => w'.cell? ⟨b, o + 1, none⟩ = some (.int .i64 (u : Int))) (first | exact HC.out _ HR.out.drew | exact HC.out _ hb3 | exact HC2.out _ hb4) (first
    | (with_reducible refine (H0.out _ ?_).mono ?_; exact HR.out.drew; rintro e w3 ⟨rfl, hb3⟩)
    | (with_reducible refine (H1.out _ ?_).mono ?_; exact hb3; rintro e w4 ⟨rfl, hs4, hb4⟩))
  all_goals (go_wp2_with fail; go_end0; exact ⟨rfl, hs4, hb4⟩)
end
end Go.Proofs.YtimjpgmgpgpanaaGreatDoor.exp
end

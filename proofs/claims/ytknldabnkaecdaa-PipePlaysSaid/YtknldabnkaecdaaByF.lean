/- What bytes.PutText and bytes.TakeText answer of every text; Put as its callers meet it. -/
import Derived.Test.YtknldabnkaecdaaByD
namespace Go.Proofs.Ytknldabnkaecdaa.byt
open Go.RowKit

theorem txt_append (l m : List UInt8) : txt l ++ txt m = txt (l ++ m) := by
  apply ByteArray.ext
  rw [ByteArray.data_append]
  simp [txt]
def OnePost (n : Int) (w : World) (e : Ending) (w' : World) : Prop := e = .returned (.string (txt (sev (tf n)))) ∧ Below w.heap.size w w'
theorem below_on' {w w' w'' : World} (h : Below w.heap.size w w') (k : Below w'.heap.size w' w'') : Below w.heap.size w w'' := h.trans (k.mono h.size)
/-- Put of one number. -/
theorem rd_one (w : World) (n : Int) : Rd (w.alloc (.cells #[.int .i64 n] 2)) (w.alloc (.cells #[.int .i64 n] 2)).heap.size (some ⟨w.heap.size, 0, none⟩) [n] := fun _ =>
  ⟨w.heap.size, 0, rfl, by simp, fun j hj => by
    obtain rfl : j = 0 := by simpa using hj
    exact cell_one_new w (.int .i64 n) 2 0 _ rfl⟩
theorem put_one (n : Int) (w : World) (hn : fits n) : Calls Try.prog 28 #[.slice (some ⟨w.heap.size, 0, none⟩) 1 1] (w.alloc (.cells #[.int .i64 n] 2)) (OnePost n w) := by
  refine (put_any [n] _ 1 _ (rd_one w n) (by simpa using hn) (by simp)).mono ?_
  rintro e w' ⟨rfl, hb⟩
  exact ⟨by simp [flat], ((Below.refl _ w).alloc (Nat.le_refl _) _).trans (hb.mono (by simp))⟩

/-- What PutText answers. -/
def putO (s : ByteArray) : ByteArray × Int := if 65536 < s.size then (txt [], 3) else (txt (sev (tf s.size)) ++ s, 0)
def PutTextPost (s : ByteArray) (w : World) (e : Ending) (w' : World) : Prop := e = .returned (.tuple #[.string (putO s).1, .int .i64 (putO s).2]) ∧ Below w.heap.size w w'
theorem putText_long {s : ByteArray} {w w' : World} (h : 65536 < s.size) (hb : Below w.heap.size w w') : PutTextPost s w (.returned (.tuple #[.string ⟨#[]⟩, .int .i64 3])) w' :=
  ⟨by unfold putO; rw [if_pos h]; rfl, hb⟩
theorem putText_fine {s : ByteArray} {w w' : World} (h : ¬ 65536 < s.size) (hb : Below w.heap.size w w') : PutTextPost s w (.returned (.tuple #[.string (txt (sev (tf s.size)) ++ s), .int .i64 0])) w' :=
  ⟨by unfold putO; rw [if_neg h], hb⟩
theorem fits_size {s : ByteArray} (h : ¬ 65536 < s.size) : fits (s.size : Int) := ⟨by omega, by omega⟩
theorem sev_room {n : Int} (h : fits n) : (txt (sev (tf n))).size ≤ 10 := by rw [txt_size]; exact sev_ten (tf_lt h.1 h.2)

/-- What TakeText answers: the text, how many bytes, the code. -/
def textO (s : ByteArray) : ByteArray × Nat × Int :=
  if (take (bl s)).2.2 ≠ 0 then (txt [], 0, (take (bl s)).2.2)
  else if (take (bl s)).1 < 0 then (txt [], 0, 21)
  else if 65536 < (take (bl s)).1 then (txt [], 0, 3)
  else if s.size < (take (bl s)).2.1 + (take (bl s)).1.toNat then (txt [], 0, 20)
  else (s.extract (take (bl s)).2.1 ((take (bl s)).2.1 + (take (bl s)).1.toNat), (take (bl s)).2.1 + (take (bl s)).1.toNat, 0)
def textE (s : ByteArray) : Ending := .returned (.tuple #[.string (textO s).1, .int .i64 (textO s).2.1, .int .i64 (textO s).2.2])
theorem textE_of {s t : ByteArray} {n : Nat} {c : Int} (h : textO s = (t, n, c)) : textE s = .returned (.tuple #[.string t, .int .i64 n, .int .i64 c]) := by unfold textE; rw [h]
theorem text_bad {s : ByteArray} {c : Int} (h : take (bl s) = (0, 0, c)) (hc : c ≠ 0) : textE s = .returned (.tuple #[.string ⟨#[]⟩, .int .i64 0, .int .i64 c]) :=
  textE_of (n := 0) (by unfold textO; rw [h, if_pos hc]; rfl)
theorem text_neg {s : ByteArray} {n : Int} {k : Nat} (h : take (bl s) = (n, k, 0)) (hn : n < 0) : textE s = .returned (.tuple #[.string ⟨#[]⟩, .int .i64 0, .int .i64 21]) :=
  textE_of (n := 0) (by unfold textO; rw [h, if_neg (by simp), if_pos hn]; rfl)
theorem text_long {s : ByteArray} {n : Int} {k : Nat} (h : take (bl s) = (n, k, 0)) (hn : 65536 < n) : textE s = .returned (.tuple #[.string ⟨#[]⟩, .int .i64 0, .int .i64 3]) :=
  textE_of (n := 0) (by unfold textO; rw [h, if_neg (by simp), if_neg (by simp only; omega), if_pos hn]; rfl)
theorem text_short {s : ByteArray} {m k : Nat} (h : take (bl s) = ((m : Int), k, 0)) (hn : m ≤ 65536) (hl : s.size < k + m) : textE s = .returned (.tuple #[.string ⟨#[]⟩, .int .i64 0, .int .i64 20]) :=
  textE_of (n := 0) (by unfold textO; rw [h, if_neg (by simp), if_neg (by simp only; omega), if_neg (by simp only; omega), if_pos (by simpa using hl)]; rfl)
theorem text_fine {s : ByteArray} {m k : Nat} (h : take (bl s) = ((m : Int), k, 0)) (hn : m ≤ 65536) (hl : ¬ s.size < k + m) : textE s = .returned (.tuple #[.string (s.extract k (k + m)), .int .i64 (k + m : Nat), .int .i64 0]) :=
  textE_of (by unfold textO; rw [h, if_neg (by simp), if_neg (by simp only; omega), if_neg (by simp only; omega), if_neg (by simpa using hl)]; rfl)

theorem str_ne {a b : ByteArray} (h : a ≠ b) : (a.toList == b.toList) = false := by
  rw [beq_eq_false_iff_ne]
  intro e
  rw [ByteArray.toList_eq, ByteArray.toList_eq] at e
  exact h (WideShapes.bytes_inj e)
theorem below_drewN (w : World) (q : Nat) : Below w.heap.size w (w.drewN q) := ⟨rfl, rfl, rfl, Nat.le_refl _, fun _ _ => rfl⟩
/-- What is owned is read as a slice. -/
theorem own_rd {w : World} {B : Nat} {v : Value} {l : List Int} (h : w.ownsRow B 2 1 v l.length (l.map intV)) : ∃ a cap, v = .slice a l.length cap ∧ Rd w w.heap.size a l := by
  rcases own_cases h with ⟨rfl, h0⟩ | ⟨g, cap, rfl, _, _, _, hg, hc⟩
  · rw [h0]
    exact ⟨none, 0, rfl, fun hl => absurd (List.eq_nil_of_length_eq_zero h0) hl⟩
  · refine ⟨_, cap, rfl, fun _ => ⟨g, 0, rfl, hg, fun j hj => ?_⟩⟩
    rw [Nat.zero_add]
    refine hc j _ ?_
    rw [List.getElem?_map, List.getElem?_eq_getElem hj, List.getD_eq_getElem?_getD, List.getElem?_eq_getElem hj]
    rfl
def NumsAt (l : List Int) (c : Int) (w : World) (e : Ending) (w' : World) : Prop :=
  ∃ a cap, e = .returned (.tuple #[.slice a l.length cap, .int .i64 c]) ∧ Rd w' w'.heap.size a l ∧ Below w.heap.size w w'
theorem nums_at {s : ByteArray} {l : List Int} {c : Int} (h : numsO s = (l, c)) {e : Ending} {w w' : World} (hp : NumsPost s w e w') : NumsAt l c w e w' := by
  obtain ⟨v, rfl, ho, hb⟩ := hp
  rw [h] at ho ⊢
  obtain ⟨a, cap, rfl, hr⟩ := own_rd ho
  exact ⟨a, cap, rfl, hr, hb⟩
theorem rd_two (w : World) (x y : Int) : Rd (w.alloc (.cells #[.int .i64 x, .int .i64 y] 2)) (w.alloc (.cells #[.int .i64 x, .int .i64 y] 2)).heap.size (some ⟨w.heap.size, 0, none⟩) [x, y] := fun _ =>
  ⟨w.heap.size, 0, rfl, by simp, fun j hj => by
    have hh : (w.alloc (.cells #[.int .i64 x, .int .i64 y] 2)).heap[w.heap.size]? = some (.cells #[.int .i64 x, .int .i64 y] 2 (0, 0)) := heap_alloc_new w _
    rw [cell_of_row _ w.heap.size (0 + j) _ _ _ hh]
    match j, hj with
    | 0, _ => rfl
    | 1, _ => rfl⟩

theorem numsO_many (s : ByteArray) : (numsO s).1.length ≤ s.size := by
  have := nums_many s.size [] (bl s) (Nat.le_refl _)
  simpa [numsO, bl_length] using this
theorem fits_wf {n : Int} (h : (Lit.int .i64 n).wf = true) : fits n := by
  simp [Lit.wf, IntKind.min, IntKind.max, IntKind.signed, IntKind.bits] at h
  exact ⟨by omega, by omega⟩
/-- A slice of numbers that came in is read as its numbers. -/
theorem rd_row {w : World} {a : Option Addr} {len cap : Nat} {zs : List Int}
    (h : (a = none ∧ len = 0 ∧ cap = 0 ∧ zs = []) ∨ ∃ x, a = some x ∧ len ≤ cap ∧ cap ≤ maxLen ∧ zs.length = cap ∧ (∀ i, i < zs.length → w.cell? (x.add i) = some (.int .i64 (zs.getD i 0))) ∧ ∀ n ∈ zs, (Lit.int .i64 n).wf = true) :
    ∃ l : List Int, l.length = len ∧ Rd w w.heap.size a l ∧ (∀ n ∈ l, fits n) := by
  rcases h with ⟨rfl, rfl, rfl, rfl⟩ | ⟨x, rfl, hl, hm, hz, hc, hw⟩
  · exact ⟨[], rfl, fun h => absurd rfl h, by simp⟩
  · refine ⟨zs.take len, by rw [List.length_take]; omega, fun hne => ?_, fun n hn => ?_⟩
    · have hlen : 0 < len := by
        rcases Nat.eq_zero_or_pos len with h0 | h0
        · rw [h0] at hne; exact absurd rfl hne
        · exact h0
      obtain ⟨b, off, spot⟩ := x
      have hc0 := hc 0 (by omega)
      have hspot : spot = none := by simpa [Addr.add] using World.cell?_spot hc0
      subst hspot
      refine ⟨b, off, rfl, ?_, fun j hj => ?_⟩
      · have := World.block_lt_of_cell? w _ hc0
        simpa [Addr.add] using this
      · rw [List.length_take] at hj
        have := hc j (by omega)
        have hadd : (⟨b, off, none⟩ : Addr).add j = ⟨b, off + j, none⟩ := by unfold Addr.add; split <;> simp_all
        rw [hadd] at this
        rw [this, List.getD_eq_getElem?_getD, List.getD_eq_getElem?_getD, List.getElem?_take, if_pos (by omega)]
    · exact fits_wf (hw n (List.mem_of_mem_take hn))
theorem put_at {l : List Int} {a : Option Addr} (cap : Nat) {w : World} {t : ByteArray} (ht : txt (flat l) = t) (hr : Rd w w.heap.size a l) (hf : ∀ n ∈ l, fits n) (hl : l.length ≤ 1000000) :
    Calls Try.prog 28 #[.slice a l.length cap] w fun e w' => e = .returned (.string t) ∧ Below w.heap.size w w' := by
  subst ht; exact put_any l a cap w hr hf hl
theorem put_one_at {n : Int} {t : ByteArray} (ht : txt (sev (tf n)) = t) (w : World) (hn : fits n) : Calls Try.prog 28 #[.slice (some ⟨w.heap.size, 0, none⟩) 1 1] (w.alloc (.cells #[.int .i64 n] 2)) fun e w' => e = .returned (.string t) ∧ Below w.heap.size w w' := by
  subst ht; exact put_one n w hn

theorem numsO_flat {l : List Int} (h : ∀ n ∈ l, fits n) : numsO (txt (flat l)) = (l, 0) := by
  unfold numsO
  rw [txt_bl, txt_size, nums_flat l _ _ h (Nat.le_refl _), List.nil_append]
theorem numsO_back {s : ByteArray} {l : List Int} (h : numsO s = (l, 0)) : txt (flat l) = s ∧ (∀ n ∈ l, fits n) ∧ l.length ≤ s.size := by
  unfold numsO at h
  obtain ⟨m, h1, h2, h3, h4⟩ := nums_ok s.size [] (bl s) (Nat.le_refl _) (by rw [h])
  rw [h] at h1
  simp only [List.nil_append] at h1
  subst h1
  exact ⟨by rw [h2, bl_txt], h3, h4⟩
theorem text_back {s b : ByteArray} (h : ¬ 65536 < s.size) : ∃ t, putO s = (t, 0) ∧ textO (t ++ b) = (s, t.size, 0) ∧ t.size ≤ s.size + 10 := by
  have hlt := tf_lt (fits_size h).1 (fits_size h).2
  obtain ⟨p, hp⟩ : ∃ p, sev (tf (s.size : Int)) = p := ⟨_, rfl⟩
  have hput : putO s = (txt p ++ s, 0) := by unfold putO; rw [if_neg h, hp]
  have e1 : bl ((txt p ++ s) ++ b) = p ++ (bl s ++ bl b) := by
    unfold bl
    rw [ByteArray.data_append, ByteArray.data_append, Array.toList_append, Array.toList_append, List.append_assoc]
    rfl
  have e2 : (txt p ++ s).size = p.length + s.size := by rw [ByteArray.size_append, txt_size]
  have e3 : ((txt p ++ s) ++ b).size = p.length + s.size + b.size := by rw [ByteArray.size_append, e2]
  have ht : take (bl ((txt p ++ s) ++ b)) = ((s.size : Int), p.length, 0) := by
    rw [e1, ← hp, take_sev _ hlt, fo_tf]
  have hp10 : p.length ≤ 10 := by rw [← hp]; exact sev_ten hlt
  refine ⟨_, hput, ?_, by rw [e2]; omega⟩
  have hx : ((txt p ++ s) ++ b).extract p.length (p.length + s.size) = s := by
    apply WideShapes.bytes_inj
    have := bl_cut ((txt p ++ s) ++ b) p.length (p.length + s.size)
    rw [e1, List.drop_left, Nat.add_sub_cancel_left] at this
    have h2 : (bl s ++ bl b).take s.size = bl s := by rw [← bl_length s, List.take_left]
    rw [h2] at this
    exact this
  unfold textO
  rw [ht]
  simp only [Int.toNat_natCast]
  rw [if_neg (by simp), if_neg (by omega), if_neg (by omega), if_neg (by omega), hx, e2]
end Go.Proofs.Ytknldabnkaecdaa.byt

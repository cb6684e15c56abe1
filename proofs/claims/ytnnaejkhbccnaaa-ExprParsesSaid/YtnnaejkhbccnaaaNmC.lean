/- What changelingref01.Runes answers: the runes of a text, and where each begins. -/
import Derived.Test.YtnnaejkhbccnaaaNmB
import Derived.Lib.OthersKept
namespace Go.Proofs.Ytnnaejkhbccnaaa.nam
open Go.RowKit

theorem own_below {W W' : World} {B e size n : Nat} {v : Value} {xs : List Value} (h : W.ownsRow B e size v n xs) (hb : Below W.heap.size W W') : W'.ownsRow B e size v n xs :=
  h.kept (row := none) ⟨hb.os, hb.tape, hb.output, hb.size, fun k hk _ => hb.block k hk⟩ (by cases hv : v.ownBlock <;> simp)
theorem own_iterAt {w : World} {B e size n : Nat} {v : Value} {xs : List Value} {k : Nat} {s : ByteArray} {pos : Nat} (h : w.ownsRow B e size v n xs) (hk : w.heap[k]? = some (.stringIter s pos)) (pos' : Nat) : (w.iterAt k s pos').ownsRow B e size v n xs := by
  refine ⟨h.1, ?_⟩
  rcases h.2 with h0 | ⟨g, cap, cur, hv, hb, hg, rest⟩
  · exact .inl h0
  · refine .inr ⟨g, cap, cur, hv, hb, ?_, rest⟩
    rw [Lib.iterAt_other _ _ _ _ _ (fun e => by subst e; rw [hk] at hg; cases hg)]
    exact hg
theorem own_ne_iter {w : World} {B e size n : Nat} {v : Value} {xs : List Value} {k : Nat} {s : ByteArray} {pos : Nat} (h : w.ownsRow B e size v n xs) (hk : w.heap[k]? = some (.stringIter s pos)) : some k ≠ v.ownBlock := by
  rcases h.2 with ⟨rfl, _⟩ | ⟨g, cap, cur, rfl, hb, hg, rest⟩
  · simp [Value.ownBlock]
  · intro e
    simp only [Value.ownBlock, Option.some.injEq] at e
    subst e
    rw [hk] at hg
    cases hg
/-- Two rows of two element types are two rows. -/
theorem own_ne_own {w : World} {B B' e e' size size' n n' : Nat} {v v' : Value} {xs xs' : List Value} (h : w.ownsRow B e size v n xs) (h' : w.ownsRow B' e' size' v' n' xs') (hne : e ≠ e') : v.ownBlock = none ∨ v.ownBlock ≠ v'.ownBlock := by
  rcases h.2 with ⟨rfl, _⟩ | ⟨g, cap, cur, rfl, hb, hg, rest⟩
  · exact .inl rfl
  · rcases h'.2 with ⟨rfl, _⟩ | ⟨g', cap', cur', rfl, hb', hg', rest'⟩
    · exact .inr (by simp [Value.ownBlock])
    · refine .inr (fun e => ?_)
      simp only [Value.ownBlock, Option.some.injEq] at e
      subst e
      rw [hg] at hg'
      cases hg'
      exact hne rfl
/-- How a slice that is owned is read. -/
theorem own_cases {w : World} {B e n : Nat} {v : Value} {xs : List Value} (h : w.ownsRow B e 1 v n xs) :
    (v = .slice none 0 0 ∧ n = 0) ∨ ∃ g cap, v = .slice (some ⟨g, 0, none⟩) n cap ∧ n ≤ cap ∧ cap ≤ maxLen ∧ B ≤ g ∧ g < w.heap.size ∧ ∀ j u, xs[j]? = some u → w.cell? ⟨g, j, none⟩ = some u := by
  rcases h.2 with h0 | ⟨g, cap, cur, rfl, hb, hg, h1, h2, h3, h4⟩
  · exact .inl h0
  · refine .inr ⟨g, cap, rfl, h1, h2, hb, (Array.getElem?_eq_some_iff.1 hg).1, fun j u hj => ?_⟩
    have := h.cells (g := g) rfl j u hj
    have hadd : (⟨g, 0, none⟩ : Addr).add j = ⟨g, j, none⟩ := by unfold Addr.add; split <;> simp_all
    rwa [hadd] at this
theorem cell_one_new (w : World) (x : Value) (t : TypeId) : ∀ j u, [x][j]? = some u → (w.alloc (.cells #[x] t)).cell? ((⟨w.heap.size, 0, none⟩ : Addr).add j) = some u := by
  intro j u hj
  match j, hj with
  | 0, hj => simp at hj; subst hj; simp [Addr.add]
  | (j + 1), hj => simp at hj

theorem info21 : (Try.prog.info? 21).map (fun i => (i.zero, i.size, i.bytes)) = some (some (.int .i32 0), 1, 4) := by kernel_rfl
theorem info3 : (Try.prog.info? 3).map (fun i => (i.zero, i.size, i.bytes)) = some (some (.int .i64 0), 1, 8) := by kernel_rfl
theorem info9 : (Try.prog.info? 9).map (fun i => (i.zero, i.size, i.bytes)) = some (some (.string ⟨#[]⟩), 1, 16) := by kernel_rfl

def runeV (x : Nat × Nat) : Value := .int .i32 x.2
def placeV (x : Nat × Nat) : Value := .int .i64 x.1

theorem own_slice {w : World} {B e n : Nat} {v : Value} {xs : List Value} (h : w.ownsRow B e 1 v n xs) : ∃ a cap, v = .slice a n cap ∧ n ≤ cap ∧ cap ≤ maxLen := by
  rcases own_cases h with ⟨rfl, rfl⟩ | ⟨g, cap, rfl, h1, h2, _⟩
  · exact ⟨none, 0, rfl, Nat.le_refl _, Nat.zero_le _⟩
  · exact ⟨_, cap, rfl, h1, h2⟩

def RunesPost (s : ByteArray) (w : World) (e : Ending) (w' : World) : Prop :=
  ∃ v1 v2, e = .returned (.tuple #[v1, v2]) ∧ w'.ownsRow w.heap.size 21 1 v1 (runesAt s 0).length ((runesAt s 0).map runeV) ∧ w'.ownsRow w.heap.size 3 1 v2 (runesAt s 0).length ((runesAt s 0).map placeV) ∧ Below w.heap.size w w'

/-- What holds at each round's head. -/
def RunesRel (s : ByteArray) (w : World) (u4 u5 : Value) (wr : World) : Prop :=
  ∃ pos k, wr.heap[w.heap.size]? = some (.stringIter s pos) ∧ wr.ownsRow w.heap.size 21 1 u4 k (((runesAt s 0).map runeV).take k) ∧ wr.ownsRow w.heap.size 3 1 u5 k (((runesAt s 0).map placeV).take k) ∧ Below w.heap.size w wr ∧
    runesAt s pos = (runesAt s 0).drop k ∧ k ≤ (runesAt s 0).length

theorem take_map_succ {α β : Type} (l : List α) (f : α → β) (k : Nat) (x : α) (h : l[k]? = some x) : (l.map f).take (k + 1) = (l.map f).take k ++ [f x] := by
  rw [List.take_add_one, List.getElem?_map, h]; rfl

theorem runes_round {s : ByteArray} {w wr w1 w2 : World} {u4 u5 v4 v5 : Value} {pos k : Nat} (hp : pos < s.size)
    (hit : wr.heap[w.heap.size]? = some (.stringIter s pos)) (h4 : wr.ownsRow w.heap.size 21 1 u4 k (((runesAt s 0).map runeV).take k)) (h5 : wr.ownsRow w.heap.size 3 1 u5 k (((runesAt s 0).map placeV).take k))
    (hb : Below w.heap.size w wr) (hd : runesAt s pos = (runesAt s 0).drop k)
    (k4 : w1.ownsRow w.heap.size 21 1 v4 (k + 1) (((runesAt s 0).map runeV).take k ++ [.int .i32 (Utf8.decode s pos).1]))
    (g4 : ((wr.iterAt w.heap.size s (pos + (Utf8.decode s pos).2)).alloc (.cells #[.int .i32 (Utf8.decode s pos).1] 21)).grownBy w1 u4.ownBlock) :
    w1.ownsRow w.heap.size 3 1 u5 k (((runesAt s 0).map placeV).take k) ∧ w.heap.size < w1.heap.size ∧
    ((w1.ownsRow w.heap.size 3 1 u5 k (((runesAt s 0).map placeV).take k)) → w2.ownsRow w.heap.size 3 1 v5 (k + 1) (((runesAt s 0).map placeV).take k ++ [.int .i64 pos]) → (w1.alloc (.cells #[.int .i64 pos] 3)).grownBy w2 u5.ownBlock →
      RunesRel s w v4 v5 w2 ∧ w2.heap[w.heap.size]? = some (.stringIter s (pos + (Utf8.decode s pos).2))) := by
  obtain ⟨e1, e2⟩ := drop_step hp hd
  have hsz : w.heap.size < wr.heap.size := (Array.getElem?_eq_some_iff.1 hit).1
  have hit2 := Lib.iterAt_heap wr w.heap.size s pos (pos + (Utf8.decode s pos).2) hit
  have hsz2 : (wr.iterAt w.heap.size s (pos + (Utf8.decode s pos).2)).heap.size = wr.heap.size := Lib.iterAt_size _ _ _ _
  have h4b := own_iterAt h4 hit (pos + (Utf8.decode s pos).2)
  have h5b := own_iterAt h5 hit (pos + (Utf8.decode s pos).2)
  have hb2 := Lib.below_iterAt hb (k := w.heap.size) (Nat.le_refl _) s (pos + (Utf8.decode s pos).2)
  have hb3 : Below w.heap.size w w1 := (hb2.alloc (by omega) _).grown g4 (by simp; omega) (fun j hj => (h4.lt j hj).1)
  have h5c := h5b.alloc (.cells #[.int .i32 (Utf8.decode s pos).1] 21)
  have h5d := h5c.kept g4 (own_ne_own h5b h4b (by decide))
  have hs1 : w.heap.size < w1.heap.size := by have := g4.size; simp at this; omega
  refine ⟨h5d, hs1, fun _ k5 g5 => ?_⟩
  have hit3 : w1.heap[w.heap.size]? = some (.stringIter s (pos + (Utf8.decode s pos).2)) := by
    rw [g4.block w.heap.size (by simp; omega) (own_ne_iter h4b hit2), Below.heap_alloc _ _ _ (by omega)]
    exact hit2
  have hit4 : w2.heap[w.heap.size]? = some (.stringIter s (pos + (Utf8.decode s pos).2)) := by
    rw [g5.block w.heap.size (by simp; omega) (own_ne_iter h5d hit3), Below.heap_alloc _ _ _ (by omega)]
    exact hit3
  have hb4 : Below w.heap.size w w2 := (hb3.alloc (by omega) _).grown g5 (by simp; omega) (fun j hj => (h5.lt j hj).1)
  have h4e := (k4.alloc (.cells #[.int .i64 pos] 3)).kept g5 (own_ne_own (k4.alloc (.cells #[.int .i64 pos] 3)) (h5d.alloc (.cells #[.int .i64 pos] 3)) (by decide))
  have hlt : k < (runesAt s 0).length := by
    rcases Nat.lt_or_ge k (runesAt s 0).length with h | h
    · exact h
    · rw [List.getElem?_eq_none h] at e1; cases e1
  refine ⟨⟨_, k + 1, hit4, ?_, ?_, hb4, e2, hlt⟩, hit4⟩
  · rw [take_map_succ _ runeV k _ e1]; exact h4e
  · rw [take_map_succ _ placeV k _ e1]; exact k5

set_option maxHeartbeats 800000 in
set_option maxRecDepth 1000000 in
theorem runes_any (s : ByteArray) (w : World) (hs : s.size ≤ 1000000) :
    Calls Try.prog 28 #[.string s] w (RunesPost s w) := by
  obtain ⟨i0, hi, hz0, hz1, hz2⟩ := info_parts info21
  obtain ⟨j0, hj, jz0, jz1, jz2⟩ := info_parts info3
  go_enter Try.func28, Try.ntmps28
  go_wp2
  go_loopw [4, 5] (fun u4 u5 wr => RunesRel s w u4 u5 wr) (fun _ _ wr => s.size - wr.iterPos w.heap.size)
  case atStart => exact ⟨0, 0, World.iter_heap w s 0, (World.ownsRow_nil _ _ _ _), (World.ownsRow_nil _ _ _ _), below_iter w s 0, rfl, Nat.zero_le _⟩
  case round =>
    obtain ⟨pos, k, hit, h4, h5, hb, hd, hk⟩ := hrel
    have hkl := runesAt_length s 0
    have HD := Lib.hid hd; clear hd
    by_cases hp : pos < s.size
    · have hnx : ∀ ty, (Instr.next (.pointer (some ⟨w.heap.size, 0, none⟩)) true ty).run Try.prog wr = _ := fun ty => Lib.run_next_any_at wr w.heap.size s pos ty hit hp
      have hwd := width_pos s pos hp
      have h4b := own_iterAt h4 hit (pos + (Utf8.decode s pos).2)
      have hsz : w.heap.size < wr.heap.size := (Array.getElem?_eq_some_iff.1 hit).1
      have HSZ : Hid (∀ o, w.heap.size ≤ ((wr.iterAt w.heap.size s (pos + (Utf8.decode s pos).2)).alloc o).heap.size) := Lib.hid (fun o => by
        rw [World.size_alloc, Lib.iterAt_size]; omega)
      go_wp2_with (at_builtin; refine wpList_append_own _ rfl (.tmp 14) (.tmp 16) 50 rfl w.heap.size 21 i0 (.int .i32 0) 1 4 Try.underlying50 hi hz0 hz1 hz2 rfl (by decide) _ _ _ rfl (h4b.alloc _) ⟨_, 0, none⟩ 1 1 [.int .i32 (Utf8.decode s pos).1] rfl rfl (cell_one_new _ _ _) (by simp [Value.oneCell']) (by unfold maxLen; omega) (by omega) (HSZ.out _) ?_)
      intro v4 w1 k4 g4 _
      obtain ⟨h5d, hs1, hround⟩ := runes_round (w2 := w1) (v5 := v4) hp hit h4 h5 hb HD.out k4 g4
      clear hround
      have HS1 : Hid (∀ o, w.heap.size ≤ (w1.alloc o).heap.size) := Lib.hid (fun o => by rw [World.size_alloc]; omega)
      go_wp2_with (at_builtin; refine wpList_append_own _ rfl (.tmp 18) (.tmp 20) 51 rfl w.heap.size 3 j0 (.int .i64 0) 1 8 Try.underlying51 hj jz0 jz1 jz2 rfl (by decide) _ _ _ rfl (h5d.alloc _) ⟨_, 0, none⟩ 1 1 [.int .i64 pos] rfl rfl (cell_one_new _ _ _) (by simp [Value.oneCell']) (by unfold maxLen; omega) (by omega) (HS1.out _) ?_)
      intro v5 w2 k5 g5 _
      obtain ⟨_, _, hround⟩ := runes_round (w2 := w2) (v5 := v5) hp hit h4 h5 hb HD.out k4 g4
      obtain ⟨hrel, hit4⟩ := hround h5d k5 g5
      have HR := Lib.hid hrel
      have HI := Lib.hid hit4
      have HT := Lib.hid hit
      clear hrel hit4 hround hit
      go_wp2
      go_roundw
      case rel => exact HR.out
      case measure => simp only [World.iterPos, HI.out, HT.out]; omega
    · have hnx : ∀ ty, (Instr.next (.pointer (some ⟨w.heap.size, 0, none⟩)) true ty).run Try.prog wr = _ := fun ty => Lib.run_next_end_at wr w.heap.size s pos ty hit hp
      have hkn : k = (runesAt s 0).length := by
        have h := HD.out
        rw [runesAt_end s pos hp] at h
        have h2 := congrArg List.length h
        simp only [List.length_nil, List.length_drop] at h2
        omega
      subst hkn
      rw [List.take_of_length_le (by simp)] at h4 h5
      go_wp2
      go_ret2
      exact ⟨_, _, rfl, h4, h5, hb⟩
/-- What Runes leaves, ready to be read. -/
theorem runes_read (s : ByteArray) (w : World) (hs : s.size ≤ 1000000) : Calls Try.prog 28 #[.string s] w fun e w' =>
    ∃ a1 c1 a2 c2, e = .returned (.tuple #[.slice a1 (runesAt s 0).length c1, .slice a2 (runesAt s 0).length c2]) ∧ Below w.heap.size w w' ∧
      (0 < (runesAt s 0).length → ∃ g1 g2, a1 = some ⟨g1, 0, none⟩ ∧ a2 = some ⟨g2, 0, none⟩ ∧ g1 < w'.heap.size ∧ g2 < w'.heap.size ∧
        (∀ k x, (runesAt s 0)[k]? = some x → w'.cell? ⟨g1, k, none⟩ = some (.int .i32 x.2) ∧ w'.cell? ⟨g2, k, none⟩ = some (.int .i64 x.1))) := by
  refine (runes_any s w hs).mono ?_
  rintro e w' ⟨v1, v2, rfl, h1, h2, hb⟩
  obtain ⟨a1, c1, rfl, _, _⟩ := own_slice h1
  obtain ⟨a2, c2, rfl, _, _⟩ := own_slice h2
  refine ⟨a1, c1, a2, c2, rfl, hb, fun h0 => ?_⟩
  rcases own_cases h1 with ⟨_, h⟩ | ⟨g1, d1, e1, _, _, _, l1, k1⟩
  · omega
  rcases own_cases h2 with ⟨_, h⟩ | ⟨g2, d2, e2, _, _, _, l2, k2⟩
  · omega
  simp only [Value.slice.injEq] at e1 e2
  exact ⟨g1, g2, e1.1, e2.1, l1, l2, fun k x hx => ⟨k1 k _ (by rw [List.getElem?_map, hx]; rfl), k2 k _ (by rw [List.getElem?_map, hx]; rfl)⟩⟩
end Go.Proofs.Ytnnaejkhbccnaaa.nam

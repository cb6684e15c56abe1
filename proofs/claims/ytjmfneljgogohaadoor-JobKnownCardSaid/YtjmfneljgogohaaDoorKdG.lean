/- What look and Of answer. -/
import Derived.Test.YtjmfneljgogohaaDoorKdE
import Derived.Test.YtjmfneljgogohaaDoorExQ
namespace Go.Proofs.YtjmfneljgogohaaDoor.exp
set_option linter.unusedSimpArgs false
set_option linter.unusedVariables false
open Go.RowKit nam
open Go.ChangeMaps (setBlock heap_setBlock_same heap_setBlock_other)

set_option maxRecDepth 1000000 in
theorem look_any {w : World} {b o : Nat} {x : Ex} (ha : At w Any b o x) (hs : x.size ≤ 1000000) (hf : Fit x) :
    Calls Tryd.prog 54 #[.pointer (some ⟨b, o, none⟩)] w fun e w' => e = .returned (.tuple #[.int .u8 (x.ty : Int), .bool x.acc]) ∧ Below w.heap.size w w' := by
  have hmm := @run_makeMap Tryd.prog
  obtain ⟨ax, hax⟩ : ∃ c, x.acc = c := ⟨_, rfl⟩
  obtain ⟨tx, htx⟩ : ∃ c : Nat, x.ty = c := ⟨_, rfl⟩
  rw [hax, htx]
  have HAX := Lib.hid hax; have HTX := Lib.hid htx
  clear hax htx
  obtain ⟨N, hN⟩ : ∃ N, w.heap.size = N := ⟨_, rfl⟩
  obtain ⟨W1, hW1⟩ : ∃ W, w.alloc (.cells #[.bool false] 4) = W := ⟨_, rfl⟩
  have q1 : W1.heap[N]? = some (.cells #[.bool false] 4 (0, 0)) := by rw [← hW1]; exact heap_last hN.symm
  have s1 : W1.heap.size = N + 1 := by rw [← hW1, ← hN]; simp
  have hb1 : Below w.heap.size w W1 := by rw [← hW1]; exact (Below.refl _ _).alloc (Nat.le_refl _) _
  have HT := Lib.hid (table_any W1)
  have H1 := Lib.hid (And.intro q1 (And.intro s1 hb1)); have HA := Lib.hid ha; have HN := Lib.hid hN; have HF := Lib.hid hf
  clear q1 s1 hb1 ha hf
  go_enter Tryd.func54, Tryd.ntmps54
  go_wp2_with fail
  refine HT.out.mono ?_
  rintro e w2 ⟨tb, rfl, htb, hpm, hb2⟩
  obtain ⟨q1, s1, hb1⟩ := H1.out
  obtain ⟨T, hT⟩ : ∃ T, w2.heap.size = T := ⟨_, rfl⟩
  obtain ⟨W6, hW6⟩ : ∃ W, (((w2.alloc (.cells #[.map (some tb)] 88)).alloc (.map #[] 0)).alloc (.cells #[.map (some (T + 1))] 90)).alloc (.cells #[.nilFunc] 91) = W := ⟨_, rfl⟩
  obtain ⟨W7, hW7⟩ : ∃ W7, W6.setCell ⟨T + 1 + 1 + 1, 0, none⟩ (.func (.func 59) #[] #[ptr (T + 1 + 1), ptr N, ptr (T + 1 + 1 + 1), ptr T]) = W7 := ⟨_, rfl⟩
  have hs2 := hb2.size
  have r1 : W6.heap[N]? = some (.cells #[.bool false] 4 (0, 0)) := by
    rw [← hW6]
    exact heap_old (heap_old (heap_old (heap_old ((hb2.block N (by omega)).trans q1))))
  have r4 : W6.heap[T]? = some (.cells #[.map (some tb)] 88 (0, 0)) := by rw [← hW6]; exact heap_old (heap_old (heap_old (heap_last hT.symm)))
  have r5 : W6.heap[T + 1]? = some (.map #[] 0) := by rw [← hW6]; exact heap_old (heap_old (heap_last (by simp [hT])))
  have r6 : W6.heap[T + 1 + 1]? = some (.cells #[.map (some (T + 1))] 90 (0, 0)) := by rw [← hW6]; exact heap_old (heap_last (by simp [hT]))
  have r7 : W6.heap[T + 1 + 1 + 1]? = some (.cells #[.nilFunc] 91 (0, 0)) := by rw [← hW6]; exact heap_last (by simp [hT])
  have gb : Below w2.heap.size w2 W6 := by
    rw [← hW6]
    exact ((((Below.refl _ _).alloc (Nat.le_refl _) _).alloc (by simp) _).alloc (by simp; omega) _).alloc (by simp; omega) _
  have hbb : Below w.heap.size w W7 := by
    rw [← hW7]
    exact ((hb1.trans (hb2.mono (by omega))).trans (gb.mono (by omega))).setCell (by show w.heap.size ≤ T + 1 + 1 + 1; omega) _
  have hlt := hpm.lt
  have hlk : Lk w (T + 1) tb (T + 1 + 1) N (T + 1 + 1 + 1) T W7 (fun _ => none) false := by
    rw [← hW7]
    refine ⟨fun b c hb => ?_, ⟨#[], 0, heap_set r5 (by omega), by simp, by simp, by simp⟩, hpm.kept ?_, heap_set r6 (by omega), heap_set r1 (by omega), heap_setCell_same W6 _ 0 _ 91 _ r7, heap_set r4 (by omega), fun q v hq => (by cases hq), by omega⟩
    · have hl := (Array.getElem?_eq_some_iff.1 hb).1
      rw [hW7]
      exact hbb.block b hl
    · rw [Below.heap_setCell _ _ _ _ (by show tb ≠ T + 1 + 1 + 1; omega)]
      exact gb.block tb (by omega)
  have c7 : W7.cell? ⟨T + 1 + 1 + 1, 0, none⟩ = some (.func (.func 59) #[] #[ptr (T + 1 + 1), ptr N, ptr (T + 1 + 1 + 1), ptr T]) := cell_of hlk.b3 rfl
  have c6 : W6.cell? ⟨T + 1 + 1 + 1, 0, none⟩ = some .nilFunc := cell_of r7 rfl
  have f6 : W6.frozen? ⟨T + 1 + 1 + 1, 0, none⟩ = false := by simp [World.frozen?, r7]
  have HO := Lib.hid (of_any w (T + 1) tb (T + 1 + 1) N (T + 1 + 1 + 1) T x.size hs x (Nat.le_refl _) HF.out W7 _ false b o hlk HA.out)
  have HB := Lib.hid hbb
  have HH := Lib.hid (And.intro hT (And.intro htb (And.intro hs2 s1)))
  clear hpm hb2 q1 hb1 r1 r4 r5 r6 r7 gb hbb hlk hlt hs2 htb s1
  unfold ptr at *
  go_wp2_with fail
  refine HO.out.mono ?_
  rintro e w8 ⟨m8, rfl, hl8, ho8⟩
  rw [Bool.false_or] at hl8
  rw [HAX.out] at hl8
  rw [HTX.out]
  have d8 : w8.heap[N]? = some (.cells #[.bool ax] 4 (0, 0)) := hl8.b2
  have c8 : w8.cell? ⟨N, 0, none⟩ = some (.bool ax) := cell_of d8 rfl
  have f8 : w8.frozen? ⟨N, 0, none⟩ = false := by simp [World.frozen?, d8]
  have d9 : (w8.setCell ⟨N, 0, none⟩ (.bool ax)).drew.cell? ⟨N, 0, none⟩ = some (.bool ax) := cell_of (w := (w8.setCell ⟨N, 0, none⟩ (.bool ax)).drew) (heap_setCell_same w8 N 0 _ 4 _ d8) rfl
  have HX : Hid (Below w.heap.size w (w8.setCell ⟨N, 0, none⟩ (.bool ax)).drew) := Lib.hid (by
    obtain ⟨hT, htb, hs2, s1⟩ := HH.out
    have hN := HN.out
    have h1 : Below w.heap.size w w8 := HB.out.trans (ho8.below (by have := HB.out.size; omega) (fun k hk => by rcases hk with rfl | rfl <;> omega))
    exact (h1.setCell (by show w.heap.size ≤ N; omega) _).drew)
  clear hl8 ho8 d8
  go_upto_region 6 with fail
  go_region
  obtain ⟨w9, hw9⟩ : ∃ w9, (w8.setCell ⟨N, 0, none⟩ (.bool ax)).drew = w9 := ⟨_, rfl⟩
  rw [hw9] at d9 HX ⊢
  clear hw9
  go_wp2_with fail
  refine bodyPost_ret (v := .tuple #[.int .u8 (tx : Int), .bool ax]) (by simp [results, Tryd.f54, go_sem, d9]) rfl ⟨rfl, HX.out⟩
end Go.Proofs.YtjmfneljgogohaaDoor.exp

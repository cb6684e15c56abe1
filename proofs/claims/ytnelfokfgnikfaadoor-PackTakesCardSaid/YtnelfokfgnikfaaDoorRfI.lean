/- What changelingref12.Readers answers. -/
import Derived.Test.YtnelfokfgnikfaaDoorRfH
namespace Go.Proofs.YtnelfokfgnikfaaDoor.rf
set_option linter.unusedSimpArgs false
set_option linter.unusedVariables false
open Go.RowKit nam exp jb

theorem mem_take_succ {l : List Int} {p x : Int} {k : Nat} (h : k < l.length) (hx : l[k] = x) : decide (p ∈ l.take (k + 1)) = (decide (p ∈ l.take k) || (x == p)) := by
  rw [List.take_succ_eq_append_getElem h, hx, Bool.eq_iff_iff]
  simp
  constructor
  · rintro (h1 | h1)
    · exact .inl h1
    · exact .inr h1.symm
  · rintro (h1 | h1)
    · exact .inl h1
    · exact .inr h1.symm
theorem own_lower {w : World} {B B' e size n : Nat} {v : Value} {xs : List Value} (h : w.ownsRow B e size v n xs) (hb : B' ≤ B) : w.ownsRow B' e size v n xs := by
  rcases h with ⟨h1, h2⟩
  refine ⟨h1, ?_⟩
  rcases h2 with h2 | ⟨g, cap, cur, h3, h4, h5⟩
  · exact .inl h2
  · exact .inr ⟨g, cap, cur, h3, Nat.le_trans hb h4, h5⟩
set_option maxHeartbeats 3200000 in
set_option maxRecDepth 1000000 in
theorem readers_any {w : World} {v : Value} {l : List Nd} (par p : Int) (h : Nodes w v l) (hl : l.length ≤ 1000) (hi : ∀ nd ∈ l, nd.ins.length ≤ 1000) :
    Calls Tryd.prog 52 #[.agg #[.int .i64 par, v], .int .i64 p] w (PlPost (readersI l p) w) := by
  obtain ⟨i0, hi0, hz0, hz1, hz2⟩ := info_parts info3
  obtain ⟨a, c, rfl, -, h2⟩ := h
  obtain ⟨N, hN⟩ : ∃ N, w.heap.size = N := ⟨_, rfl⟩
  obtain ⟨n, hn⟩ : ∃ n, l.length = n := ⟨_, rfl⟩
  have HN := Lib.hid hn
  obtain ⟨W, hW⟩ : ∃ W, w.alloc (.cells #[.int .i64 par, .slice a l.length c] 24) = W := ⟨_, rfl⟩
  have hwb : Below w.heap.size w W := by rw [← hW]; exact below_made _ _
  obtain ⟨c0, c1⟩ := box2 hW
  rw [hN] at c0 c1
  rw [hn] at c1 hl hW
  have HB := Lib.hid hwb; have HC := Lib.hid h2; have HII := Lib.hid hi
  rw [hn]
  have HRD : Hid (readersI l p = placesI (reads p) l 0) := Lib.hid rfl
  clear h2 hi hwb hn
  go_enter Tryd.func52, Tryd.ntmps52
  go_wp2_with fail
  go_loopg [5, 6] n (fun g v5 v6 wr => ∃ (k : Nat) (done : List Int), k + g = n ∧ v6 = .int .i64 k ∧ done.length ≤ k ∧ done ++ placesI (reads p) (l.drop k) k = placesI (reads p) l 0 ∧ wr.ownsRow W.heap.size 3 1 v5 done.length (done.map intV) ∧ Below W.heap.size W wr)
  case atStart => exact ⟨0, [], by omega, rfl, by simp, rfl, World.ownsRow_nil _ _ _ _, Below.refl _ _⟩
  case round =>
    rename World => wr
    rename Nat => G
    obtain ⟨k, done, hk, rfl, hdk, hf, hr, hb⟩ := hrel
    have HF := Lib.hid hf; have HBR := Lib.hid hb; have HR := Lib.hid hr; have HDK := Lib.hid hdk
    have c1r := cell_on c1 hb
    by_cases hkn : k < n
    · have hkl : k < l.length := by rw [HN.out]; exact hkn
      have hki : (k : Int) < (n : Int) := by omega
      obtain ⟨b, rfl, hat⟩ := HC.out (by omega)
      obtain ⟨-, vi, va, -, -, n2, -, -, -, -, hvi, -⟩ := (hat k hkl).on (HB.out.trans (hb.mono HB.out.size))
      have HD := Lib.hid (placesI_drop (f := reads p) (k := k) hkl)
      have hil := HII.out _ (List.getElem_mem hkl)
      obtain ⟨nd, hnd⟩ : ∃ x, l[k] = x := ⟨_, rfl⟩
      rw [hnd] at hvi HD hil
      obtain ⟨ai, ci, rfl, hcs⟩ := hvi
      have HCS := Lib.hid hcs
      have HN2 := Lib.hid n2
      obtain ⟨m, hm⟩ : ∃ m, nd.ins.length = m := ⟨_, rfl⟩
      have HM := Lib.hid hm
      rw [hm] at HN2 hil n2
      clear hf hb hr hat hnd hcs hdk hm
      have hm1 : (m : Int) ≤ 1000 := by omega
      go_wp2_with fail
      go_loopg [7, 8] m (fun g v7 v8 w2 => ∃ (i : Nat) (r : Bool), i + g = m ∧ v8 = .int .i64 i ∧ v7 = .bool r ∧ r = decide (p ∈ nd.ins.take i) ∧ w2 = wr)
      case atStart => exact ⟨0, false, by omega, rfl, rfl, by simp, rfl⟩
      case round =>
        obtain ⟨i, r, hi, rfl, rfl, hrr, rfl⟩ := hrel
        have HRR := Lib.hid hrr
        have c1r := cell_on c1 HBR.out
        have n2 := HN2.out
        clear hrr
        by_cases him : i < m
        · have hii : (i : Int) < (m : Int) := by omega
          have hil2 : i < nd.ins.length := by rw [HM.out]; exact him
          obtain ⟨b1, o1, rfl, hlt, hcc⟩ := HCS.out (by omega)
          have hx := hcc i hil2
          obtain ⟨x, hxe⟩ : ∃ x, nd.ins[i] = x := ⟨_, rfl⟩
          have HMT := Lib.hid (mem_take_succ (p := p) hil2 hxe)
          rw [hxe] at hx
          clear hcc hxe hil2
          cases r with
          | true =>
            have HT : Hid (true = decide (p ∈ nd.ins.take (i + 1))) := Lib.hid (by rw [HMT.out, ← HRR.out]; rfl)
            go_wp2_with fail
            go_roundg (gk - 1)
            case measure => omega
            case rel => exact ⟨i + 1, true, by omega, by go_num, rfl, HT.out, rfl⟩
          | false =>
            obtain ⟨r2, hr2⟩ : ∃ b, (x == p) = b := ⟨_, rfl⟩
            have HT : Hid (r2 = decide (p ∈ nd.ins.take (i + 1))) := Lib.hid (by rw [HMT.out, ← HRR.out, hr2]; rfl)
            go_wp2_with fail
            go_roundg (gk - 1)
            case measure => omega
            case rel => exact ⟨i + 1, r2, by omega, by go_num, rfl, HT.out, rfl⟩
        · have hii : ¬ (i : Int) < (m : Int) := by omega
          have HRE : Hid (r = reads p nd) := Lib.hid (by
            rw [HRR.out]
            unfold reads
            rw [List.take_of_length_le (by rw [HM.out]; omega)])
          cases r with
          | true =>
            have HE : Hid ((done ++ [(k : Int)]) ++ placesI (reads p) (l.drop (k + 1)) (k + 1) = placesI (reads p) l 0) := Lib.hid (by rw [← HF.out, HD.out, ← HRE.out]; simp)
            have HSZ : Hid (∀ o, W.heap.size ≤ (wr.alloc o).heap.size) := Lib.hid (fun o => by rw [World.size_alloc]; have := HBR.out.size; omega)
            have hdl : done.length ≤ 1000 := by have := HDK.out; omega
            go_wp2_with (at_builtin; refine wpList_append_own _ rfl (.tmp 42) (.tmp 44) 47 rfl W.heap.size 3 i0 (.int .i64 0) 1 8 Tryd.underlying47 hi0 hz0 hz1 hz2 rfl (by decide) _ _ _ rfl (HR.out.alloc _) ⟨_, 0, none⟩ 1 1 [.int .i64 (k : Int)] rfl rfl (cell_one_new _ _ _) (by simp [Value.oneCell']) (by unfold maxLen; omega) (by omega) (HSZ.out _) ?_)
            intro v' w2 k4 g4 _
            have HMR := Lib.hid (places_more HBR.out HR.out (Below.refl _ _) k4 g4)
            clear k4 g4
            go_wp2
            go_roundg (G - 1)
            case rel => exact ⟨k + 1, _, by omega, by go_num, by have := HDK.out; simp; omega, HE.out, HMR.out.1, HMR.out.2⟩
            case measure => omega
          | false =>
            have HE : Hid (done ++ placesI (reads p) (l.drop (k + 1)) (k + 1) = placesI (reads p) l 0) := Lib.hid (by rw [← HF.out, HD.out, ← HRE.out]; simp)
            go_wp2_with fail
            go_roundg (G - 1)
            case rel => exact ⟨k + 1, done, by omega, by go_num, by have := HDK.out; omega, HE.out, HR.out, HBR.out⟩
            case measure => omega
    · have hki : ¬ (k : Int) < (n : Int) := by omega
      have HE : Hid (done = placesI (reads p) l 0) := Lib.hid (drop_len HF.out (by rw [HN.out]; omega))
      clear hkn hf hb hr
      go_wp2_with fail
      try rw [Exit.noGoto_ret]
      go_ret
      refine ⟨_, rfl, ?_, HB.out.trans (HBR.out.mono HB.out.size)⟩
      rw [HRD.out, ← HE.out]
      exact own_lower HR.out HB.out.size
end Go.Proofs.YtnelfokfgnikfaaDoor.rf

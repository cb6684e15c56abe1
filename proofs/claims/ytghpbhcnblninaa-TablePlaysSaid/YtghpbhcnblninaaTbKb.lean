/- What Keys answers: the walk. -/
import Derived.Test.YtghpbhcnblninaaTbK
namespace Go.Proofs.Ytghpbhcnblninaa.tbl
set_option linter.unusedSimpArgs false
set_option linter.unusedVariables false
open Go.RowKit Go.Shelf
attribute [local go_sem ↓] Go.wp_at_zero Go.wp_at_succ
open Go.Proofs.Ytghpbhcnblninaa.grp (gof gof_in fits fits_wf IRow intV below_on' below_made ret_bool rem_twice rem_in ret_int own_below)

noncomputable def siT : TypeInfo := (Try.prog.info? 30).get (by kernel_rfl)
noncomputable def siE : TypeInfo := (Try.prog.info? 2).get (by kernel_rfl)
theorem siK (n : Nat) (h2 : 2 ≤ n) : Lib.swapperK n siE 6 = 5 := by
  have a : siE.hasPointers = false := by kernel_rfl
  have b : siE.bytes = 8 := by kernel_rfl
  have c : (n == 0) = false := by simp; omega
  have d : (n == 1) = false := by simp; omega
  simp [Lib.swapperK, a, b, c, d]
theorem tiny_any (p : Option Addr) (n c : Nat) (h1 : n ≤ 1) (S : Nat) (W : World) : Calls Try.prog 46 #[.iface 30 (.slice p n c), .func (.func 47) #[] #[.pointer (some ⟨S, 0, none⟩)]] W fun e w' => e = .returned (.tuple #[]) ∧ ∃ os, w' = Sort.grow W os := by
  have hK : Lib.swapperK n siE 6 = n + 1 := by
    rcases Nat.eq_zero_or_pos n with h | h
    · subst h; simp [Lib.swapperK]
    · obtain rfl : n = 1 := by omega
      simp [Lib.swapperK]
  exact Any.sort_Slice_tiny Try.laysGg6 30 2 siT siE (by kernel_rfl) (by kernel_rfl) (by kernel_rfl) (by kernel_rfl) 6 (fun _ => by kernel_rfl) p n c h1 (70 + n) (by
    rw [hK]
    rcases Nat.eq_zero_or_pos n with h | h
    · subst h; kernel_rfl
    · obtain rfl : n = 1 := by omega
      kernel_rfl) (.func 47) #[] #[.pointer (some ⟨S, 0, none⟩)] W
/-- sort.Slice of a row of one's own that a box holds. -/
theorem sort_any {W : World} {B g cap S : Nat} {ss : List Int} (ho : W.ownsRow B 2 1 (.slice (some ⟨g, 0, none⟩) ss.length cap) ss.length (ss.map intV)) (hS : W.cell? ⟨S, 0, none⟩ = some (.slice (some ⟨g, 0, none⟩) ss.length cap)) (hSg : S ≠ g) (hSl : S < W.heap.size) (hl : ss.length ≤ 100000)
    {L : Rows} (hL : Good L) (hp : ss.Perm (L.map Prod.fst)) :
    Calls Try.prog 46 #[.iface 30 (.slice (some ⟨g, 0, none⟩) ss.length cap), .func (.func 47) #[] #[.pointer (some ⟨S, 0, none⟩)]] W fun e w' => e = .returned (.tuple #[]) ∧
      w'.ownsRow B 2 1 (.slice (some ⟨g, 0, none⟩) ss.length cap) ss.length ((L.map Prod.fst).map intV) ∧ W.grownBy w' (some g) := by
  rcases ho.2 with ⟨h0, _⟩ | ⟨g', cap', cur, hv, hbase, hb, h1, h2, h3, h4⟩
  · cases h0
  · simp only [Value.slice.injEq, Option.some.injEq, Addr.mk.injEq, and_true, true_and] at hv
    obtain ⟨rfl, rfl⟩ := hv
    have hglt : g < W.heap.size := lt_of_get hb
    have hH : Sort.Holds (Value.int .i64) W g 0 ss.toArray := holds_of_block_i hb (by rw [Nat.mul_one] at h4; exact h4)
    by_cases h : 2 ≤ ss.length
    · have hless : LessReads Try.prog 47 #[.pointer (some ⟨S, 0, none⟩)] (Value.int .i64) lessB g 0 ss.toArray.size W := by
        intro m os dk hs i j hi hj
        have hb1 : g < (Sort.ahead W m).heap.size := hglt
        have e : sortWorld (Value.int .i64) W g 0 m dk os = Sort.putRow (Value.int .i64) (Sort.grow (Sort.ahead W m) os) g 0 dk := by
          unfold sortWorld; rw [Sort.putRow_grow _ (Sort.ahead W m) _ g 0 _ hb1]
        have hHg : Sort.Holds (Value.int .i64) (Sort.grow (Sort.ahead W m) os) g 0 ss.toArray := Sort.holds_grow _ _ _ g 0 _ hb1 (Sort.holds_ahead _ _ _ _ _ _ hH)
        refine less_any g 0 cap S ss.toArray.size _ (fun t => dk[t]!) ?_ (fun t ht => ?_) i j hi hj
        · rw [e, Sort.cell?_putRow_other _ _ g 0 dk _ (Or.inl hSg), Sort.cell?_grow _ _ _ hSl]
          simpa using hS
        · rw [e]; exact Sort.cell?_putRow _ _ g 0 ss.toArray dk hHg hs t (by omega)
      have hSo := Any.sort_Slice_sorted Try.laysGg6 30 2 siT siE (by kernel_rfl) (by kernel_rfl) (by kernel_rfl) (by kernel_rfl) 6 (fun _ => by kernel_rfl) (by kernel_rfl) (fun _ => by kernel_rfl) (Value.int .i64) (fun _ => rfl) lessB swo_less 47 _
        (enters_of Try.func47 (by kernel_rfl) rfl) g 0 cap ss.toArray (by simpa using h) (by simp; omega) 74 (by rw [siK _ (by simpa using h)]; kernel_rfl) true
        (fun args W => run_callFunc_extern Try.func74 (by kernel_rfl) (by kernel_rfl) (by kernel_rfl) (e := Extern.ReflectliteSwapper.swap true) (by kernel_rfl) args W) W hless hH hglt
      simp only [List.size_toArray] at hSo
      refine hSo.mono ?_
      rintro e w' ⟨rfl, d', n, os, hpm, hso, rfl⟩
      have hk : d'.toList = L.map Prod.fst := sorted_keys hL (by simpa using hp) (by simpa using hpm) (by simpa using hso)
      have hd : d' = (L.map Prod.fst).toArray := by rw [← hk]
      subst hd
      exact ⟨rfl, ownsRow_sorted_i (by simpa using hp.length_eq.symm) hbase hb h1 h2 h3, grownBy_sorted_i _⟩
    · have hT := tiny_any (some ⟨g, 0, none⟩) ss.length cap (by omega) S W
      have he : ss = L.map Prod.fst := by
        cases ss with
        | nil => exact (List.nil_perm.1 hp).symm
        | cons x r =>
          cases r with
          | nil => exact (List.perm_singleton.1 hp.symm).symm
          | cons y r => simp at h
      refine hT.mono ?_
      rintro e w' ⟨rfl, os, rfl⟩
      have hg : W.grownBy (Sort.grow W os) (some g) := ⟨rfl, rfl, rfl, by simp, fun k hk _ => Sort.heap_grow_old _ _ hk⟩
      refine ⟨rfl, ⟨by rw [← he]; exact ho.1, .inr ⟨g, cap, cur, rfl, hbase, (Sort.heap_grow_old _ _ hglt).trans hb, h1, h2, h3, by rw [← he]; exact h4⟩⟩, hg⟩
def KeysPost (w : World) (L : Rows) (e : Ending) (w' : World) : Prop := ∃ a cap, e = .returned (.slice a L.length cap) ∧ NA w' a cap (L.map Prod.fst) ∧ Below w.heap.size w w'
theorem keys_nil (w : World) : Calls Try.prog 17 #[.pointer none] w fun e w' => e = .returned (.slice none 0 0) ∧ w' = w := by
  go_enter Try.func17, Try.ntmps17
  go_wp2_with fail
  go_ret
  exact ⟨rfl, rfl⟩
set_option maxHeartbeats 1600000 in
set_option maxRecDepth 1000000 in
theorem keys_any {w : World} {t b : Nat} {L : Rows} (h : IsTab w t b L) : Calls Try.prog 17 #[.pointer (some ⟨t, 0, none⟩)] w (KeysPost w L) := by
  obtain ⟨D, ho, hs, hD, hk⟩ := h.map.keys h.good
  have hlen := h.good.len
  have m0 := h.obj.cells.1
  have HO := Lib.hid ho
  have HS := Lib.hid hs
  have HK := Lib.hid hk
  have HG := Lib.hid h.good
  have HLEN := Lib.hid hlen
  have HMK := Lib.hid (mkeys_any b w)
  have hb1 : Below w.heap.size w (w.alloc (.cells #[.map (some b)] 65)) := below_made _ _
  have HC := Lib.hid (collect_any (W := w.alloc (.cells #[.map (some b)] 65)) (b := b) (Bm := w.heap.size) (by simp) (by simp) (ho.alloc _) (by omega))
  obtain ⟨W1, hW1⟩ : ∃ W, w.alloc (.cells #[.map (some b)] 65) = W := ⟨_, rfl⟩
  rw [hW1] at HC HMK hb1
  have HB1 := Lib.hid hb1
  clear h ho hs hD hk hlen hb1
  go_enter Try.func17, Try.ntmps17
  go_wp2_with fail
  refine HMK.out.mono ?_
  rintro e w1 ⟨rfl, rfl⟩
  go_wp2_with fail
  refine HC.out.mono ?_
  rintro e w2 ⟨v, ss, rfl, hp, ho2, hnil, hb2⟩
  have HP := Lib.hid (hp.trans HK.out.symm)
  have HB2 := Lib.hid (below_on' HB1.out hb2)
  have hle : ss.length = L.length := by have := HP.out.length_eq; simpa using this
  have HLE := Lib.hid hle
  rcases ho2.2 with ⟨rfl, h0⟩ | ⟨g, cap, cur, rfl, hbase, hg2, -⟩
  · have HT := Lib.hid (fun S W => tiny_any none 0 0 (by omega) S W)
    have hL0 : L.map Prod.fst = [] := by
      have := HLE.out
      rw [h0] at this
      cases L with
      | nil => rfl
      | cons p L => simp at this
    have HE : Hid (∀ w', Below w.heap.size w w' → KeysPost w L (.returned (.slice none 0 0)) w') := Lib.hid (fun w' hb => by
      unfold KeysPost
      rw [hL0, ← HLE.out, h0]
      exact ⟨none, 0, rfl, NA.nil w', hb⟩)
    have hc : (w2.alloc (.cells #[.slice none 0 0] 30)).cell? ⟨w2.heap.size, 0, none⟩ = some (.slice none 0 0) := by simp
    have hb3 : Below w2.heap.size w2 (w2.alloc (.cells #[.slice none 0 0] 30)) := below_made _ _
    obtain ⟨W3, hW3⟩ : ∃ W, w2.alloc (.cells #[.slice none 0 0] 30) = W := ⟨_, rfl⟩
    have hs3 : w2.heap.size < W3.heap.size := by rw [← hW3]; simp
    rw [hW3] at hc hb3
    have HW3 := Lib.hid hW3
    have HB3 := Lib.hid (below_on' HB2.out hb3)
    have HC3 := Lib.hid hc
    have HS3 := Lib.hid hs3
    obtain ⟨S, hS⟩ : ∃ S, w2.heap.size = S := ⟨_, rfl⟩
    rw [hS] at HC3 HS3
    have HSS := Lib.hid hS
    clear ho2 hb2 hp hle hnil h0 hc hb3 hs3 hW3 hS
    go_wp2_with fail
    rw [HW3.out, HSS.out]
    refine (HT.out _ _).mono ?_
    rintro e w4 ⟨rfl, os, rfl⟩
    have hc4 : (Sort.grow W3 os).cell? ⟨S, 0, none⟩ = some (.slice none 0 0) := (Sort.cell?_grow _ _ _ HS3.out).trans HC3.out
    have HB4 : Hid (Below w.heap.size w (Sort.grow W3 os)) := Lib.hid (below_on' HB3.out ⟨rfl, rfl, rfl, by simp, fun k hk => Sort.heap_grow_old _ _ hk⟩)
    obtain ⟨W4, hW4⟩ : ∃ W, Sort.grow W3 os = W := ⟨_, rfl⟩
    rw [hW4] at hc4 HB4 ⊢
    clear hW4
    go_wp2_with fail
    go_ret
    exact HE.out _ HB4.out
  · have hg2l := lt_of_get hg2
    have hc : (w2.alloc (.cells #[.slice (some ⟨g, 0, none⟩) ss.length cap] 30)).cell? ⟨w2.heap.size, 0, none⟩ = some (.slice (some ⟨g, 0, none⟩) ss.length cap) := by simp
    have hb3 : Below w2.heap.size w2 (w2.alloc (.cells #[.slice (some ⟨g, 0, none⟩) ss.length cap] 30)) := below_made _ _
    obtain ⟨W3, hW3⟩ : ∃ W, w2.alloc (.cells #[.slice (some ⟨g, 0, none⟩) ss.length cap] 30) = W := ⟨_, rfl⟩
    have hs3 : w2.heap.size < W3.heap.size := by rw [← hW3]; simp
    rw [hW3] at hc hb3
    have HW3 := Lib.hid hW3
    have HB3 := Lib.hid (below_on' HB2.out hb3)
    have HC3 := Lib.hid hc
    have HS3 := Lib.hid hs3
    have hne : w2.heap.size ≠ g := fun e => by omega
    have HSO := Lib.hid (sort_any (own_below ho2 hb3) hc hne hs3 (by have := HLEN.out; omega) HG.out HP.out)
    have HNE := Lib.hid hne
    have HGE : Hid (w.heap.size ≤ g) := Lib.hid (Nat.le_trans HB1.out.size hbase)
    obtain ⟨S, hS⟩ : ∃ S, w2.heap.size = S := ⟨_, rfl⟩
    rw [hS] at HC3 HS3 HSO HNE
    have HSS := Lib.hid hS
    clear ho2 hb2 hp hle hnil hne hg2 hg2l hbase hc hb3 hs3 hW3 hS
    go_wp2_with fail
    rw [HW3.out, HSS.out]
    have HLK := Lib.hid (show (L.map Prod.fst).length = ss.length by have := HLE.out; simp; omega)
    refine HSO.out.mono ?_
    rintro e w4 ⟨rfl, ho4, hg4⟩
    have hc4 : w4.cell? ⟨S, 0, none⟩ = some (.slice (some ⟨g, 0, none⟩) ss.length cap) := (World.cell?_of_block (hg4.block S HS3.out (fun e => HNE.out (Option.some.inj e)))).trans HC3.out
    have HB4 := Lib.hid (HB3.out.grown hg4 HB3.out.size (fun k hk => by cases hk; exact HGE.out))
    obtain ⟨-, a4, cap4, hv4, hna⟩ := NR.own ho4
    rw [HLK.out] at hv4
    simp only [Value.slice.injEq, true_and] at hv4
    obtain ⟨rfl, rfl⟩ := hv4
    have HE : Hid (KeysPost w L (.returned (.slice (some ⟨g, 0, none⟩) ss.length cap)) w4) := Lib.hid ⟨_, _, by rw [HLE.out], hna, HB4.out⟩
    clear ho4 hg4 hna
    go_wp2_with fail
    go_ret
    exact HE.out
end Go.Proofs.Ytghpbhcnblninaa.tbl

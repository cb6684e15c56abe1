/- What the reference's Drop answers, and what it leaves. -/
import Derived.Test.YtghpbhcnblninaaTcQ
namespace Go.Proofs.Ytghpbhcnblninaa.tbl
set_option linter.unusedSimpArgs false
set_option linter.unusedVariables false
open Go.RowKit
attribute [local go_sem ↓] Go.wp_at_zero Go.wp_at_succ
open Go.Proofs.Ytghpbhcnblninaa.grp (gof gof_in fits fits_wf IRow intV below_on' below_made ret_bool own_below ret_int rof_any)
theorem own3_new (w : World) : (w.alloc (.cells #[] 89)).ownsRow w.heap.size 89 3 (.slice (some ⟨w.heap.size, 0, none⟩) 0 0) 0 [] :=
  ⟨by simp, .inr ⟨w.heap.size, 0, _, rfl, Nat.le_refl _, Go.heap_alloc_new w _, Nat.le_refl _, by decide, by simp, by simp⟩⟩
theorem own3_le {w : World} {B B' e n : Nat} {v : Value} {xs : List Value} (h : w.ownsRow B e 3 v n xs) (hB : B' ≤ B) : w.ownsRow B' e 3 v n xs := by
  obtain ⟨h1, h2⟩ := h
  refine ⟨h1, ?_⟩
  rcases h2 with h2 | ⟨g, cap, cur, e1, e2, e3⟩
  · exact .inl h2
  · exact .inr ⟨g, cap, cur, e1, Nat.le_trans hB e2, e3⟩
def RDropPost (w : World) (r : Nat) (L : Rows) (k : Int) (e : Ending) (w' : World) : Prop := e = .returned (.bool (look L k).isSome) ∧ IsRef w' r (delL L k) ∧ Only (· = r) w w'
theorem rdrop_none {w w' : World} {r : Nat} {rs : List Rw} {k : Int} (h : IsRs w r rs) (hG : Good (rs.map Rw.p)) (hl : look (rs.map Rw.p) k = none) (hb : Below w.heap.size w w') : RDropPost w r (rs.map Rw.p) k (.returned (.bool false)) w' := by
  unfold RDropPost
  rw [hl, del_none hl]
  exact ⟨rfl, ⟨hG, rs, rfl, h.below hb⟩, .of_below hb⟩
theorem rdrop_done {w W : World} {r n : Nat} {rs : List Rw} {k : Int} {v : Value} {m1 : Nat} (h : IsRs w r rs) (hG : Good (rs.map Rw.p)) (hl : (look (rs.map Rw.p) k).isSome = true) (hm1 : fnd rs k + 1 = m1) (hb : Below w.heap.size w W)
    (ho : W.ownsRow w.heap.size 89 3 v n (cells3 (rs.take (fnd rs k) ++ rs.drop m1))) : RDropPost w r (rs.map Rw.p) k (.returned (.bool true)) (W.setCell ⟨r, 0, none⟩ v) := by
  obtain ⟨c, hc⟩ := Option.isSome_iff_exists.1 hl
  obtain ⟨h1, h2⟩ := rs_final h hb ho (fun y hy => by
    obtain ⟨v0, -, -, h3⟩ := id h
    rcases List.mem_append.1 hy with hy | hy
    · exact (h3 y (List.mem_of_mem_take hy)).keep (.of_below hb)
    · exact (h3 y (List.mem_of_mem_drop hy)).keep (.of_below hb))
  unfold RDropPost
  rw [hl]
  refine ⟨rfl, ⟨hG.del k, _, ?_, h1⟩, h2⟩
  rw [fnd_del rs k hG.ord hc, hm1, List.map_append]
set_option maxHeartbeats 3200000 in
set_option maxRecDepth 1000000 in
theorem rdrop_any {w : World} {r : Nat} {rs : List Rw} (h : IsRs w r rs) (hG : Good (rs.map Rw.p)) {k : Int} (hk : fits k) :
    Calls Try.prog 24 #[.pointer (some ⟨r, 0, none⟩), .int .i64 k] w (RDropPost w r (rs.map Rw.p) k) := by
  have HFI := Lib.hid (find_any h hG hk)
  have HH := Lib.hid h
  have HLK := Lib.hid (at_look (k := k) hG.ord)
  have HL3 : Hid (rs.length ≤ 320) := Lib.hid (by have := hG.len; rwa [List.length_map] at this)
  cases hia : isAt rs k with
  | false =>
    rw [hia] at HFI HLK
    have HN := Lib.hid (fun w' => rdrop_none (w' := w') h hG (k := k) (by
      have := HLK.out
      cases hl : look (rs.map Rw.p) k with
      | none => rfl
      | some c => rw [hl] at this; cases this))
    clear h hG hk hia
    obtain ⟨m, hm⟩ : ∃ m, fnd rs k = m := ⟨_, rfl⟩
    rw [hm] at HFI
    clear hm
    go_enter Try.func24, Try.ntmps24
    go_wp2_with fail
    refine HFI.out.mono ?_
    rintro e w1 ⟨rfl, hb1⟩
    have HB1 := Lib.hid hb1
    clear hb1
    go_wp2_with fail
    go_ret
    exact HN.out _ HB1.out
  | true =>
    rw [hia] at HFI HLK
    have hmlt : fnd rs k < rs.length := by
      have e := hia
      unfold isAt at e
      by_cases hlt : fnd rs k < rs.length
      · exact hlt
      · rw [dif_neg hlt] at e; cases e
    obtain ⟨v, hr, hsr, -⟩ := id h
    obtain ⟨a0, c0, rfl⟩ := hsr.len
    have hc0 := cell_of_row w r 0 _ _ _ hr
    obtain ⟨n0, hn0⟩ : ∃ n, rs.length = n := ⟨_, rfl⟩
    rw [hn0] at hsr hc0
    change w.cell? ⟨r, 0, none⟩ = some (.slice a0 n0 c0) at hc0
    have HC0 := Lib.hid hc0
    obtain ⟨m1, hm1⟩ : ∃ m1, fnd rs k + 1 = m1 := ⟨_, rfl⟩
    have HDN := Lib.hid (fun (W : World) (n : Nat) (v : Value) => rdrop_done (w := w) (W := W) (n := n) (v := v) h hG HLK.out hm1)
    obtain ⟨m, hm⟩ : ∃ m, fnd rs k = m := ⟨_, rfl⟩
    simp only [hm] at HFI HDN hmlt hm1
    obtain ⟨ah, hah1, hah2⟩ := slice_head hsr m (by omega)
    have HHD := Lib.hid (And.intro hah1 hah2)
    obtain ⟨at1, hat1, hat2⟩ := slice_tail hsr m1 (by omega)
    have hm1e : (m1 : Int) = (m : Int) + 1 := by omega
    have hwr : IntKind.i64.wrap ((m : Int) + 1) = (m1 : Int) := by rw [IntKind.wrap_i64]; have := HL3.out; omega
    have HTD := Lib.hid (And.intro hat1 hat2)
    have hm0 : (0 : Int) ≤ (m : Int) := by omega
    have hmx : (m : Int) < 1000 := by have := HL3.out; omega
    clear h hG hk hia hmlt hr hsr hc0 hn0 hm1 hm hah1 hah2 hat1 hat2 hm1e
    go_enter Try.func24, Try.ntmps24
    go_wp2_with fail
    refine HFI.out.mono ?_
    rintro e wc ⟨rfl, hb1⟩
    have HBC := Lib.hid hb1
    clear hb1
    have hrunh := HHD.out.1
    have hrunt := HTD.out.1
    have hb2 : Below wc.heap.size wc (wc.drew.alloc (.cells #[] 89)) := ((Below.refl _ wc).drew).alloc (Nat.le_refl _) _
    have hb2w := below_on' HBC.out hb2
    have ho2 := own3_new wc.drew
    obtain ⟨v4, w4, hr4, ho4, hg4⟩ := ref.app3_run ho2 (HHD.out.2 _ (.of_below hb2w)) (by have := HL3.out; rw [List.length_take]; omega) (by rw [World.size_alloc]; exact Nat.le_succ _) 43
    have hb4 := hb2w.grown hg4 hb2w.size (fun j hj => Nat.le_trans HBC.out.size (ho2.lt j hj).1)
    obtain ⟨v5, w5, hr5, ho5, hg5⟩ := ref.app3_run ho4 (HTD.out.2 w4 (.of_below hb4)) (by have := HL3.out; rw [List.length_take, List.length_drop]; omega) (Nat.le_trans (Nat.le_succ _) (by have := hg4.size; rw [World.size_alloc] at this; exact this)) 43
    have hb5 := hb4.grown hg5 hb4.size (fun j hj => Nat.le_trans HBC.out.size (ho4.lt j hj).1)
    have e5 : [] ++ cells3 (rs.take m) ++ cells3 (rs.drop m1) = cells3 (rs.take m ++ rs.drop m1) := by rw [List.nil_append, ← cells3_append]
    rw [e5] at ho5
    obtain ⟨a5, c5, rfl⟩ := (Sr.own ho5).2.len
    have HFIN := Lib.hid (HDN.out _ _ _ hb5 (own3_le ho5 HBC.out.size))
    obtain ⟨L5, hL5⟩ : ∃ l, (rs.take m ++ rs.drop m1).length = l := ⟨_, rfl⟩
    rw [hL5] at HFIN hr5
    clear hL5
    obtain ⟨vr, hrr, -, -⟩ := HH.out
    have hr5' : w5.heap[r]? = some (.cells #[vr] 45 (0, 0)) := (hb5.block r HH.out.lt).trans hrr
    have zf := frozen_of_row w5 r 0 _ _ hr5'
    have zc : w5.cell? ⟨r, 0, none⟩ = some vr := by rw [cell_of_row w5 r 0 _ _ _ hr5']; rfl
    have P1 : (wc.drew).cell? ⟨r, 0, none⟩ = some (.slice a0 n0 c0) := (HBC.out.cell (p := ⟨r, 0, none⟩) (World.block_lt_of_cell? w _ HC0.out)).trans HC0.out
    have P2 : (wc.drew.alloc (.cells #[] 89)).cell? ⟨r, 0, none⟩ = some (.slice a0 n0 c0) := (hb2w.cell (p := ⟨r, 0, none⟩) (World.block_lt_of_cell? w _ HC0.out)).trans HC0.out
    have P3 : w4.cell? ⟨r, 0, none⟩ = some (.slice a0 n0 c0) := (hb4.cell (p := ⟨r, 0, none⟩) (World.block_lt_of_cell? w _ HC0.out)).trans HC0.out
    have P4 : w5.cell? ⟨r, 0, none⟩ = some (.slice a0 n0 c0) := (hb5.cell (p := ⟨r, 0, none⟩) (World.block_lt_of_cell? w _ HC0.out)).trans HC0.out
    have HR4 : Hid ((Builtin.append_ #[43, 43] 43 #[.slice (some ⟨wc.drew.heap.size, 0, none⟩) 0 0, .slice ah m c0]).run Try.prog (wc.drew.alloc (.cells #[] 89)) = .ok v4 w4) := Lib.hid hr4
    have HR5 := Lib.hid hr5
    clear hb2 hb2w ho2 hr4 ho4 hg4 hb4 hr5 ho5 hg5 hb5 e5 hrr hr5'
    go_wp2_with fail
    refine dsk.wp_region_peel2 (by kernel_rfl) (by simp only [List.dropLast_cons_cons, List.dropLast_singleton]; exact rfl) rfl (by kernel_rfl) ?_
    refine wpAny_of_held (S := fun w' => w'.cell? ⟨r, 0, none⟩ = some (.slice a0 n0 c0)) _ _ _ _ ?_
    have hHeld := P1
    refine wpAnyH_take (i := 0) (v := ?v1) rfl (by kernel_rfl) (by kernel_rfl) (by kernel_rfl) (fun _ _ _ h => h) (Or.inl ⟨by rfl, ?hy1⟩) (by assumption) ?rest1
    case hy1 => (intro w0 hSw; (try dsimp only at hSw); go_simp; try with_reducible rfl)
    try simp only [Act.put, List.getElem_toArray, List.getElem_cons_zero, List.getElem_cons_succ, List.setIfInBounds_toArray, List.set_cons_zero, List.set_cons_succ]
    refine wpAnyH_take (i := 2) (v := ?v2) rfl (by kernel_rfl) (by kernel_rfl) (by kernel_rfl) (fun _ _ _ h => h) (Or.inl ⟨by rfl, ?hy2⟩) (by assumption) ?rest2
    case hy2 => (intro w0 hSw; (try dsimp only at hSw); go_simp; try with_reducible rfl)
    try simp only [Act.put, List.getElem_toArray, List.getElem_cons_zero, List.getElem_cons_succ, List.setIfInBounds_toArray, List.set_cons_zero, List.set_cons_succ]
    refine wpAnyH_take (i := 3) (v := ?v3) rfl (by kernel_rfl) (by kernel_rfl) (by kernel_rfl) (fun _ _ _ h => h) (Or.inl ⟨by rfl, ?hy3⟩) (by assumption) ?rest3
    case hy3 => (intro w0 hSw; (try dsimp only at hSw); go_simp; try with_reducible rfl)
    try simp only [Act.put, List.getElem_toArray, List.getElem_cons_zero, List.getElem_cons_succ, List.setIfInBounds_toArray, List.set_cons_zero, List.set_cons_succ]
    refine wpAnyH_take (i := 4) (v := ?v4) rfl (by kernel_rfl) (by kernel_rfl) (by kernel_rfl) (fun _ _ _ h => h) (Or.inl ⟨by rfl, ?hy4⟩) (by assumption) ?rest4
    case hy4 => (intro w0 hSw; (try dsimp only at hSw); go_simp; try with_reducible rfl)
    try simp only [Act.put, List.getElem_toArray, List.getElem_cons_zero, List.getElem_cons_succ, List.setIfInBounds_toArray, List.set_cons_zero, List.set_cons_succ]
    refine wpAnyH_take (i := 5) (v := ?v5) rfl (by kernel_rfl) (by kernel_rfl) (by kernel_rfl) (fun _ _ _ h => h) (Or.inl ⟨by rfl, ?hy5⟩) (by assumption) ?rest5
    case hy5 => (intro w0 hSw; (try dsimp only at hSw); go_simp; try with_reducible rfl)
    try simp only [Act.put, List.getElem_toArray, List.getElem_cons_zero, List.getElem_cons_succ, List.setIfInBounds_toArray, List.set_cons_zero, List.set_cons_succ]
    refine wpAnyH_take (i := 6) (v := ?v6) rfl (by kernel_rfl) (by kernel_rfl) (by kernel_rfl) (fun _ _ _ h => h) (Or.inl ⟨by rfl, ?hy6⟩) (by assumption) ?rest6
    case hy6 => (intro w0 hSw; (try dsimp only at hSw); go_simp; try with_reducible rfl)
    try simp only [Act.put, List.getElem_toArray, List.getElem_cons_zero, List.getElem_cons_succ, List.setIfInBounds_toArray, List.set_cons_zero, List.set_cons_succ]
    refine wpAnyH_take (i := 7) (v := ?v7) rfl (by kernel_rfl) (by kernel_rfl) (by kernel_rfl) (fun _ _ _ h => h) (Or.inl ⟨by rfl, ?hy7⟩) (by assumption) ?rest7
    case hy7 => (intro w0 hSw; (try dsimp only at hSw); go_simp; try with_reducible rfl)
    try simp only [Act.put, List.getElem_toArray, List.getElem_cons_zero, List.getElem_cons_succ, List.setIfInBounds_toArray, List.set_cons_zero, List.set_cons_succ]
    refine wpAnyH_take (i := 9) (v := ?v8) rfl (by kernel_rfl) (by kernel_rfl) (by kernel_rfl) (fun _ _ _ h => h) (Or.inl ⟨by rfl, ?hy8⟩) (by assumption) ?rest8
    case hy8 => (intro w0 hSw; (try dsimp only at hSw); go_simp; try with_reducible rfl)
    try simp only [Act.put, List.getElem_toArray, List.getElem_cons_zero, List.getElem_cons_succ, List.setIfInBounds_toArray, List.set_cons_zero, List.set_cons_succ]
    refine wpAnyH_take (i := 10) (v := ?v9) rfl (by kernel_rfl) (by kernel_rfl) (by kernel_rfl) (fun _ _ _ h => h) (Or.inl ⟨by rfl, ?hy9⟩) (by assumption) ?rest9
    case hy9 => (intro w0 hSw; (try dsimp only at hSw); go_simp; try with_reducible rfl)
    try simp only [Act.put, List.getElem_toArray, List.getElem_cons_zero, List.getElem_cons_succ, List.setIfInBounds_toArray, List.set_cons_zero, List.set_cons_succ]
    refine wpAnyH_take (i := 11) (v := ?v10) rfl (by kernel_rfl) (by kernel_rfl) (by kernel_rfl) (fun _ _ _ h => h) (Or.inl ⟨by rfl, ?hy10⟩) (by assumption) ?rest10
    case hy10 => (intro w0 hSw; (try dsimp only at hSw); go_simp; try with_reducible rfl)
    try simp only [Act.put, List.getElem_toArray, List.getElem_cons_zero, List.getElem_cons_succ, List.setIfInBounds_toArray, List.set_cons_zero, List.set_cons_succ]
    refine wpAnyH_take (i := 12) (v := ?v11) rfl (by kernel_rfl) (by kernel_rfl) (by kernel_rfl) (fun _ _ _ h => h) (Or.inl ⟨by rfl, ?hy11⟩) (by assumption) ?rest11
    case hy11 => (intro w0 hSw; (try dsimp only at hSw); go_simp; try with_reducible rfl)
    try simp only [Act.put, List.getElem_toArray, List.getElem_cons_zero, List.getElem_cons_succ, List.setIfInBounds_toArray, List.set_cons_zero, List.set_cons_succ]
    refine wpAnyH_take (i := 13) (v := ?v12) rfl (by kernel_rfl) (by kernel_rfl) (by kernel_rfl) (fun _ _ _ h => h) (Or.inl ⟨by rfl, ?hy12⟩) (by assumption) ?rest12
    case hy12 => (intro w0 hSw; (try dsimp only at hSw); go_simp; try with_reducible rfl)
    try simp only [Act.put, List.getElem_toArray, List.getElem_cons_zero, List.getElem_cons_succ, List.setIfInBounds_toArray, List.set_cons_zero, List.set_cons_succ]
    refine wpAnyH_take (i := 14) (v := ?v13) rfl (by kernel_rfl) (by kernel_rfl) (by kernel_rfl) (fun _ _ _ h => h) (Or.inl ⟨by rfl, ?hy13⟩) (by assumption) ?rest13
    case hy13 => (intro w0 hSw; (try dsimp only at hSw); go_simp; try with_reducible rfl)
    try simp only [Act.put, List.getElem_toArray, List.getElem_cons_zero, List.getElem_cons_succ, List.setIfInBounds_toArray, List.set_cons_zero, List.set_cons_succ]
    refine wpAnyH_take (i := 15) (v := ?v14) rfl (by kernel_rfl) (by kernel_rfl) (by kernel_rfl) (fun _ _ _ h => h) (Or.inl ⟨by rfl, ?hy14⟩) (by assumption) ?rest14
    case hy14 => (intro w0 hSw; (try dsimp only at hSw); go_simp; try with_reducible rfl)
    try simp only [Act.put, List.getElem_toArray, List.getElem_cons_zero, List.getElem_cons_succ, List.setIfInBounds_toArray, List.set_cons_zero, List.set_cons_succ]
    refine wpAnyH_ready (rs := [1]) (by kernel_rfl) (by simp) ?_
    refine AllReadyH.cons rfl (fun KQ hKQ => ?_) AllReadyH.nil
    go_simp
    refine hKQ.out _ _ ?_ (fun hHeld => ?_)
    · exact P2
    clear hKQ KQ
    try simp only [Act.put, List.getElem_toArray, List.getElem_cons_zero, List.getElem_cons_succ, List.setIfInBounds_toArray, List.set_cons_zero, List.set_cons_succ]
    refine wpAnyH_ready (rs := [8]) (by kernel_rfl) (by simp) ?_
    refine AllReadyH.cons rfl (fun KQ hKQ => ?_) AllReadyH.nil
    refine step_app rfl (.tmp 15) (.tmp 21) 43 rfl rfl (by rfl) HR4.out ?_
    refine hKQ.out _ _ ?_ (fun hHeld => ?_)
    · exact P3
    clear hKQ KQ
    try simp only [Act.put, List.getElem_toArray, List.getElem_cons_zero, List.getElem_cons_succ, List.setIfInBounds_toArray, List.set_cons_zero, List.set_cons_succ]
    refine wpAnyH_ready (rs := [16]) (by kernel_rfl) (by simp) ?_
    refine AllReadyH.cons rfl (fun KQ hKQ => ?_) AllReadyH.nil
    refine step_app rfl (.tmp 22) (.tmp 29) 43 rfl rfl (by rfl) HR5.out ?_
    refine hKQ.out _ _ ?_ (fun hHeld => ?_)
    · exact P4
    clear hKQ KQ
    try simp only [Act.put, List.getElem_toArray, List.getElem_cons_zero, List.getElem_cons_succ, List.setIfInBounds_toArray, List.set_cons_zero, List.set_cons_succ]
    refine wpAnyH_take (i := 17) (v := ?v15) rfl (by kernel_rfl) (by kernel_rfl) (by kernel_rfl) (fun _ _ _ h => h) (Or.inl ⟨by rfl, ?hy15⟩) (by assumption) ?rest15
    case hy15 => (intro w0 hSw; (try dsimp only at hSw); go_simp; try with_reducible rfl)
    try simp only [Act.put, List.getElem_toArray, List.getElem_cons_zero, List.getElem_cons_succ, List.setIfInBounds_toArray, List.set_cons_zero, List.set_cons_succ]
    refine wpAnyH_take (i := 18) (v := ?v16) rfl (by kernel_rfl) (by kernel_rfl) (by kernel_rfl) (fun _ _ _ h => h) (Or.inl ⟨by rfl, ?hy16⟩) (by assumption) ?rest16
    case hy16 => (intro w0 hSw; (try dsimp only at hSw); go_simp; try with_reducible rfl)
    try simp only [Act.put, List.getElem_toArray, List.getElem_cons_zero, List.getElem_cons_succ, List.setIfInBounds_toArray, List.set_cons_zero, List.set_cons_succ]
    refine wpAnyH_done (by kernel_rfl) ?_ _
    change wpList _ _ _ _ _ _
    clear P1 P2 P3 P4 hHeld
    go_wp2_with fail
    go_ret
    exact HFIN.out
end Go.Proofs.Ytghpbhcnblninaa.tbl

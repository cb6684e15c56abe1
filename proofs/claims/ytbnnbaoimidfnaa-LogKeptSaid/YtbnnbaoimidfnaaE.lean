/- What Cut and shorten do. -/
import Derived.Test.YtbnnbaoimidfnaaD
namespace Go.Proofs.Ytbnnbaoimidfnaa.lg
set_option linter.unusedSimpArgs false
set_option linter.unusedVariables false
open Go.RowKit byt frm dsk
attribute [local go_sem ↓] Go.wp_at_zero Go.wp_at_succ

section
variable {w w' w1 w2 w3 : World} {G F : Nat → Prop} {l d : Nat} {x x1 x2 : D} {y y2 : Lg} {v : Value} {E : Int}
theorem LogAt.setRecs {g cap n k : Nat} {b : Nat} (h : LogAt w l d y (.slice (some ⟨g, 0, none⟩) n cap)) (hn : n = y.recs.length) (hk : k ≤ n) (hb : whl (y.recs.take k) = b) (hc : n ≤ cap) :
    LogAt ((w.setCell ⟨l, 3, none⟩ (.slice (some ⟨g, 0, none⟩) k k)).setCell ⟨l, 2, none⟩ (.int .i64 (b : Nat))) l d { y with recs := y.recs.take k } (.slice (some ⟨g, 0, none⟩) k k) := by
  subst hn
  have hgl : g ≠ l := fun e => h.ne (by rw [e]; rfl)
  refine ⟨((h.row.set 3 _).set 2 _).congr fun j hj => ?_, ?_⟩
  · unfold cellsL
    by_cases h0 : j = 0
    · simp [h0]
    · by_cases h1 : j = 1
      · simp [h1]
      · by_cases h2 : j = 2
        · simp [h2, hb]
        · by_cases h3 : j = 3
          · simp [h3]
          · by_cases h4 : j = 4
            · simp [h4]
            · simp [h0, h1, h2, h3, h4]
  · show Row _ 62 3 _ (y.recs.take k).length (rowsFrom 0 (y.recs.take k))
    rw [← rowsFrom_take, List.length_take, Nat.min_eq_left hk]
    refine Row.frame (w := w) (h.recs.cut hk (Nat.le_refl _) (by omega)) fun g' hg' => ?_
    simp [Value.ownBlock] at hg'; subst hg'
    rw [heap_setCell_other _ _ _ _ hgl, heap_setCell_other _ _ _ _ hgl]
theorem LogAt.setTail (h : LogAt w l d y v) (m : Nat) : LogAt ((w.setCell ⟨l, 4, none⟩ (.int .i64 (m : Nat))).setCell ⟨l, 5, none⟩ (.bool true)) l d { y with sure := m, loose := true } v := by
  refine LogAt.set (y := { y with sure := m }) (LogAt.set h 4 _ (fun j hj => ?_) rfl) 5 _ (fun j hj => ?_) rfl
  · unfold cellsL
    by_cases h4 : j = 4
    · subst h4; rfl
    · simp [h4]
  · unfold cellsL
    by_cases h4 : j = 5
    · subst h4; rfl
    · rw [if_neg h4]
      by_cases h0 : j = 0
      · simp [h0]
      · by_cases h1 : j = 1
        · simp [h1]
        · by_cases h2 : j = 2
          · simp [h2]
          · by_cases h3 : j = 3
            · simp [h3]
            · simp [h0, h1, h2, h3, show j = 4 from by omega]
theorem cut_close {g cap n k b m : Nat} (hp : Parts w G F l d x y (.slice (some ⟨g, 0, none⟩) n cap)) (p : Post F d x1 w w2) (hn : n = y.recs.length) (hk : k ≤ n) (hb : whl (y.recs.take k) = b) (hc : n ≤ cap) (hm : min y.sure k = m)
    (hok : Lg.Ok { y with recs := y.recs.take k, sure := min y.sure k, loose := true } x1) :
    PostL G l d x1 { y with recs := y.recs.take k, sure := min y.sure k, loose := true } w ((((w2.setCell ⟨l, 3, none⟩ (.slice (some ⟨g, 0, none⟩) k k)).setCell ⟨l, 2, none⟩ (.int .i64 (b : Nat))).setCell ⟨l, 4, none⟩ (.int .i64 (m : Nat))).setCell ⟨l, 5, none⟩ (.bool true)) := by
  subst hm
  refine PostL.of_step (hp.step p ((only_two w2).then (only_two _)) (LogAt.setTail (LogAt.setRecs (hp.kept p) hn hk hb hc) _) fun g' hg' => ?_) hok
  simp [Value.ownBlock] at hg'; subst hg'
  refine ⟨.inl rfl, ?_⟩
  have := hp.log.recs.lt (g := g) rfl
  have := p.only.size
  simp; omega
theorem cutL_mid {k : Nat} (hk : k < y.recs.length) {E1 : Int} (h1 : x.cut y.file (y.at k : Nat) = (E1, x1)) : cutL x y k = if E1 = 0 then syncL x1 { y with recs := y.recs.take k, sure := min y.sure k, loose := true } else (E1, x1, y) := by
  unfold cutL
  rw [if_neg (by omega), if_neg (by omega)]
  simp only [Int.toNat_natCast, h1]
theorem cut_beyond (n : Int) (hn : n < 0 ∨ (y.recs.length : Int) < n) (hl : y.recs.length ≤ 1099511627776) (hat : LogAt w l d y v) : Calls Try.prog 12 #[ptr l 0, .int .i64 n] w fun e w' => e = .returned (.int .i64 5) ∧ w = w' := by
  obtain ⟨a, cap, ev⟩ := hat.recs.len
  have h3 := hat.cell3
  rw [ev] at h3
  clear ev
  by_cases h0 : n < 0
  · clear hn hat
    go_enter Try.func12, Try.ntmps12
    go_wp2
    go_ret
    exact ⟨rfl, rfl⟩
  · have h1 : (y.recs.length : Int) < n := by omega
    have h0' : (0 : Int) ≤ n := by omega
    clear hn hat h0
    go_enter Try.func12, Try.ntmps12
    go_wp2
    go_ret
    exact ⟨rfl, rfl⟩
theorem cut_all (n : Nat) (hn : n = y.recs.length) (hl : y.recs.length ≤ 1099511627776) (hat : LogAt w l d y v) : Calls Try.prog 12 #[ptr l 0, .int .i64 n] w fun e w' => e = .returned (.int .i64 0) ∧ w = w' := by
  obtain ⟨a, cap, ev⟩ := hat.recs.len
  have h3 := hat.cell3
  rw [ev, ← hn] at h3
  rw [← hn] at hl
  clear ev hat hn
  go_enter Try.func12, Try.ntmps12
  go_wp2
  go_ret
  exact ⟨rfl, rfl⟩
set_option maxHeartbeats 1600000 in
set_option maxRecDepth 100000 in
theorem cut_mid (k : Nat) (hk : k < y.recs.length) (h : IsLog w G l d x y) (hs : cutL x y k = (E, x2, y2)) (hlen : x.loose.length ≤ 1099511627776) :
    Calls Try.prog 12 #[ptr l 0, .int .i64 k] w fun e w' => e = .returned (.int .i64 E) ∧ PostL G l d x2 y2 w w' := by
  have hyl := h.ok.len h.xok
  obtain ⟨F, v, hp, hok⟩ := id h
  obtain ⟨f, L, s, lo⟩ := y
  dsimp only at hk hyl
  obtain ⟨r, hr⟩ : ∃ r, L[k]? = some r := ⟨_, List.getElem?_eq_getElem hk⟩
  obtain ⟨g, cap, rfl, hc1, hc2⟩ := some_of hp.log.recs rfl hr
  obtain ⟨b, hb⟩ : ∃ b, whl (L.take k) = b := ⟨_, rfl⟩
  obtain ⟨n, hn⟩ : ∃ n, L.length = n := ⟨_, rfl⟩
  obtain ⟨E1, x1, h1⟩ : ∃ E1 x1, x.cut f b = (E1, x1) := ⟨_, _, rfl⟩
  rw [cutL_mid (y := ⟨f, L, s, lo⟩) hk (E1 := E1) (x1 := x1) (by dsimp only [Lg.at]; rw [hb]; exact h1)] at hs
  dsimp only at hs
  have HR := Lib.hid (Row.range3 hp.log.recs hr)
  have c3 := hp.log.cell3
  have hcb : w.cell? ⟨g, k * 3 + 2, none⟩ = some (.int .i64 (b : Nat)) := by have := HR.out 2 _ rfl; rwa [hb] at this
  have HA := Lib.hid (cut_at h1 w.drew F d (show IsDisk w.drew F d x from hp.disk.below (below_dr (Below.refl _ w))) hlen)
  have HP := Lib.hid (show Parts w.drew G F l d x ⟨f, L, s, lo⟩ (.slice (some ⟨g, 0, none⟩) L.length cap) from hp.below (below_dr (Below.refl _ w)))
  have hkn : (k : Int) < (n : Int) := by omega
  have hk0 : (0 : Int) ≤ (k : Int) := by omega
  dsimp only at c3
  rw [hn] at c3 HP hc1
  have hkne : ((k : Int) == (n : Int)) = false := by simp; omega
  have hkc : (k : Int) ≤ (cap : Int) := by omega
  have hcl : (cap : Int) ≤ 9223372036854775807 := by have := hc2; unfold maxLen at this; omega
  have HK := Lib.hid (And.intro hn (And.intro hb (And.intro hc1 hk)))
  by_cases hE : E1 = 0
  · subst hE
    rw [if_pos rfl] at hs
    have HOK1 := Lib.hid (cut_ok (y := ⟨f, L, s, lo⟩) (k := k) (by dsimp only [Lg.at]; rw [hb]; exact h1) (Nat.le_of_lt hk) hok)
    have HS := Lib.hid hs
    rcases Nat.lt_trichotomy s k with hsk | hsk | hsk
    · have HM := Lib.hid (show min s k = s by omega)
      have hsk' : (s : Int) < (k : Int) := by omega
      clear hp hok h hyl hr hb hn hs h1 hk hsk
      go_enter Try.func12, Try.ntmps12
      go_wp2_with fail
      refine wp_region_peel2 (by kernel_rfl) (by simp only [List.dropLast_cons_cons, List.dropLast_singleton]; exact rfl) rfl (by kernel_rfl) ?_
      refine wpAny_of_held (S := fun w' => w'.cell? ⟨l, 0, none⟩ = some (ptr d 0) ∧ w'.cell? ⟨l, 1, none⟩ = some (.int .i64 (f : Nat))) _ _ _ _ ?_
      have hHeld : w.drew.cell? ⟨l, 0, none⟩ = some (ptr d 0) ∧ w.drew.cell? ⟨l, 1, none⟩ = some (.int .i64 (f : Nat)) := ⟨HP.out.log.cell0, HP.out.log.cell1⟩
      refine wpAnyH_take (i := 0) (v := ?v1) rfl (by kernel_rfl) (by kernel_rfl) (by kernel_rfl) (fun _ _ _ h => h) (Or.inl ⟨by rfl, ?hy1⟩) (by assumption) ?rest1
      case hy1 => (intro w0 hSw; (try dsimp only at hSw); go_simp; try with_reducible rfl)
      try simp only [Act.put, List.getElem_toArray, List.getElem_cons_zero, List.getElem_cons_succ, List.setIfInBounds_toArray, List.set_cons_zero, List.set_cons_succ]
      refine wpAnyH_take (i := 1) (v := ?v2) rfl (by kernel_rfl) (by kernel_rfl) (by kernel_rfl) (fun _ _ _ h => h) (Or.inl ⟨by rfl, ?hy2⟩) (by assumption) ?rest2
      case hy2 => (intro w0 hSw; (try dsimp only at hSw); go_simp; try with_reducible rfl)
      try simp only [Act.put, List.getElem_toArray, List.getElem_cons_zero, List.getElem_cons_succ, List.setIfInBounds_toArray, List.set_cons_zero, List.set_cons_succ]
      refine wpAnyH_take (i := 2) (v := ?v3) rfl (by kernel_rfl) (by kernel_rfl) (by kernel_rfl) (fun _ _ _ h => h) (Or.inl ⟨by rfl, ?hy3⟩) (by assumption) ?rest3
      case hy3 => (intro w0 hSw; (try dsimp only at hSw); go_simp; try with_reducible rfl)
      try simp only [Act.put, List.getElem_toArray, List.getElem_cons_zero, List.getElem_cons_succ, List.setIfInBounds_toArray, List.set_cons_zero, List.set_cons_succ]
      refine wpAnyH_take (i := 3) (v := ?v4) rfl (by kernel_rfl) (by kernel_rfl) (by kernel_rfl) (fun _ _ _ h => h) (Or.inl ⟨by rfl, ?hy4⟩) (by assumption) ?rest4
      case hy4 => (intro w0 hSw; (try dsimp only at hSw); go_simp; try with_reducible rfl)
      try simp only [Act.put, List.getElem_toArray, List.getElem_cons_zero, List.getElem_cons_succ, List.setIfInBounds_toArray, List.set_cons_zero, List.set_cons_succ]
      refine wpAnyH_take (i := 4) (v := ?v5) rfl (by kernel_rfl) (by kernel_rfl) (by kernel_rfl) (fun _ _ _ h => h) (Or.inl ⟨by rfl, ?hy5⟩) (by assumption) ?rest5
      case hy5 => (intro w0 hSw; (try dsimp only at hSw); go_simp; try with_reducible rfl)
      try simp only [Act.put, List.getElem_toArray, List.getElem_cons_zero, List.getElem_cons_succ, List.setIfInBounds_toArray, List.set_cons_zero, List.set_cons_succ]
      refine wpAnyH_take (i := 5) (v := ?v6) rfl (by kernel_rfl) (by kernel_rfl) (by kernel_rfl) (fun _ _ _ h => h) (Or.inl ⟨by rfl, ?hy6⟩) (by assumption) ?rest6
      case hy6 => (intro w0 hSw; (try dsimp only at hSw); go_simp; try with_reducible rfl)
      try simp only [Act.put, List.getElem_toArray, List.getElem_cons_zero, List.getElem_cons_succ, List.setIfInBounds_toArray, List.set_cons_zero, List.set_cons_succ]
      refine wpAnyH_take (i := 6) (v := ?v7) rfl (by kernel_rfl) (by kernel_rfl) (by kernel_rfl) (fun _ _ _ h => h) (Or.inl ⟨by rfl, ?hy7⟩) (by assumption) ?rest7
      case hy7 => (intro w0 hSw; (try dsimp only at hSw); go_simp; try with_reducible rfl)
      try simp only [Act.put, List.getElem_toArray, List.getElem_cons_zero, List.getElem_cons_succ, List.setIfInBounds_toArray, List.set_cons_zero, List.set_cons_succ]
      refine wpAnyH_take (i := 7) (v := ?v8) rfl (by kernel_rfl) (by kernel_rfl) (by kernel_rfl) (fun _ _ _ h => h) (Or.inl ⟨by rfl, ?hy8⟩) (by assumption) ?rest8
      case hy8 => (intro w0 hSw; (try dsimp only at hSw); go_simp; try with_reducible rfl)
      try simp only [Act.put, List.getElem_toArray, List.getElem_cons_zero, List.getElem_cons_succ, List.setIfInBounds_toArray, List.set_cons_zero, List.set_cons_succ]
      refine wpAnyH_take (i := 8) (v := ?v9) rfl (by kernel_rfl) (by kernel_rfl) (by kernel_rfl) (fun _ _ _ h => h) (Or.inl ⟨by rfl, ?hy9⟩) (by assumption) ?rest9
      case hy9 => (intro w0 hSw; (try dsimp only at hSw); go_simp; try with_reducible rfl)
      try simp only [Act.put, List.getElem_toArray, List.getElem_cons_zero, List.getElem_cons_succ, List.setIfInBounds_toArray, List.set_cons_zero, List.set_cons_succ]
      refine wpAnyH_ready (rs := [9]) (by kernel_rfl) (by simp) ?_
      refine AllReadyH.cons rfl (fun K hK => ?_) AllReadyH.nil
      go_simp
      go_at_call 25
      refine HA.out.mono ?_
      rintro e w2 ⟨rfl, p2⟩
      have hat := HP.out.kept p2
      have hh := And.intro hat.cell0 hat.cell1
      have P2 := Lib.hid p2
      clear p2 hat
      refine hK.out _ _ ?_ (fun hHeld => ?_)
      · exact hh
      clear hK K
      try simp only [Act.put, List.getElem_toArray, List.getElem_cons_zero, List.getElem_cons_succ, List.setIfInBounds_toArray, List.set_cons_zero, List.set_cons_succ]
      refine wpAnyH_done (by kernel_rfl) ?_ _
      change wpList _ _ _ _ _ _
      have hat := HP.out.kept P2.out
      have d3 := hat.cell3
      have d4 := hat.cell4
      have d2 := hat.cell2
      have d5 := hat.cell5
      have f2 := hat.row.frozen 2
      have f3 := hat.row.frozen 3
      have f4 := hat.row.frozen 4
      have f5 := hat.row.frozen 5
      dsimp only at d2 d3 d4 d5
      clear hHeld hh hat c3 hcb
      go_wp2_with fail
      obtain ⟨hn, hb, hc1, hk⟩ := HK.out
      have hpost := cut_close (y := ⟨f, L, s, lo⟩) (x1 := x1) HP.out P2.out hn.symm (by omega) hb hc1 HM.out HOK1.out
      have HPO := Lib.hid (PostL.after (w1 := w.drew) (below_dr (Below.refl _ w)) (fun k hk => HP.out.lt k hk) hpost)
      refine (sync_any HPO.out.log HS.out).mono ?_
      rintro e w4 ⟨rfl, p4⟩
      have P4 := Lib.hid p4
      clear p4 hpost hn hb hc1 hk
      go_wp2_with fail
      go_ret
      exact ⟨rfl, HPO.out.then P4.out⟩
    · subst k
      have HM := Lib.hid (show min s s = s by omega)
      clear hp hok h hyl hr hb hn hs h1 hk
      go_enter Try.func12, Try.ntmps12
      go_wp2_with fail
      refine wp_region_peel2 (by kernel_rfl) (by simp only [List.dropLast_cons_cons, List.dropLast_singleton]; exact rfl) rfl (by kernel_rfl) ?_
      refine wpAny_of_held (S := fun w' => w'.cell? ⟨l, 0, none⟩ = some (ptr d 0) ∧ w'.cell? ⟨l, 1, none⟩ = some (.int .i64 (f : Nat))) _ _ _ _ ?_
      have hHeld : w.drew.cell? ⟨l, 0, none⟩ = some (ptr d 0) ∧ w.drew.cell? ⟨l, 1, none⟩ = some (.int .i64 (f : Nat)) := ⟨HP.out.log.cell0, HP.out.log.cell1⟩
      refine wpAnyH_take (i := 0) (v := ?v10) rfl (by kernel_rfl) (by kernel_rfl) (by kernel_rfl) (fun _ _ _ h => h) (Or.inl ⟨by rfl, ?hy10⟩) (by assumption) ?rest10
      case hy10 => (intro w0 hSw; (try dsimp only at hSw); go_simp; try with_reducible rfl)
      try simp only [Act.put, List.getElem_toArray, List.getElem_cons_zero, List.getElem_cons_succ, List.setIfInBounds_toArray, List.set_cons_zero, List.set_cons_succ]
      refine wpAnyH_take (i := 1) (v := ?v11) rfl (by kernel_rfl) (by kernel_rfl) (by kernel_rfl) (fun _ _ _ h => h) (Or.inl ⟨by rfl, ?hy11⟩) (by assumption) ?rest11
      case hy11 => (intro w0 hSw; (try dsimp only at hSw); go_simp; try with_reducible rfl)
      try simp only [Act.put, List.getElem_toArray, List.getElem_cons_zero, List.getElem_cons_succ, List.setIfInBounds_toArray, List.set_cons_zero, List.set_cons_succ]
      refine wpAnyH_take (i := 2) (v := ?v12) rfl (by kernel_rfl) (by kernel_rfl) (by kernel_rfl) (fun _ _ _ h => h) (Or.inl ⟨by rfl, ?hy12⟩) (by assumption) ?rest12
      case hy12 => (intro w0 hSw; (try dsimp only at hSw); go_simp; try with_reducible rfl)
      try simp only [Act.put, List.getElem_toArray, List.getElem_cons_zero, List.getElem_cons_succ, List.setIfInBounds_toArray, List.set_cons_zero, List.set_cons_succ]
      refine wpAnyH_take (i := 3) (v := ?v13) rfl (by kernel_rfl) (by kernel_rfl) (by kernel_rfl) (fun _ _ _ h => h) (Or.inl ⟨by rfl, ?hy13⟩) (by assumption) ?rest13
      case hy13 => (intro w0 hSw; (try dsimp only at hSw); go_simp; try with_reducible rfl)
      try simp only [Act.put, List.getElem_toArray, List.getElem_cons_zero, List.getElem_cons_succ, List.setIfInBounds_toArray, List.set_cons_zero, List.set_cons_succ]
      refine wpAnyH_take (i := 4) (v := ?v14) rfl (by kernel_rfl) (by kernel_rfl) (by kernel_rfl) (fun _ _ _ h => h) (Or.inl ⟨by rfl, ?hy14⟩) (by assumption) ?rest14
      case hy14 => (intro w0 hSw; (try dsimp only at hSw); go_simp; try with_reducible rfl)
      try simp only [Act.put, List.getElem_toArray, List.getElem_cons_zero, List.getElem_cons_succ, List.setIfInBounds_toArray, List.set_cons_zero, List.set_cons_succ]
      refine wpAnyH_take (i := 5) (v := ?v15) rfl (by kernel_rfl) (by kernel_rfl) (by kernel_rfl) (fun _ _ _ h => h) (Or.inl ⟨by rfl, ?hy15⟩) (by assumption) ?rest15
      case hy15 => (intro w0 hSw; (try dsimp only at hSw); go_simp; try with_reducible rfl)
      try simp only [Act.put, List.getElem_toArray, List.getElem_cons_zero, List.getElem_cons_succ, List.setIfInBounds_toArray, List.set_cons_zero, List.set_cons_succ]
      refine wpAnyH_take (i := 6) (v := ?v16) rfl (by kernel_rfl) (by kernel_rfl) (by kernel_rfl) (fun _ _ _ h => h) (Or.inl ⟨by rfl, ?hy16⟩) (by assumption) ?rest16
      case hy16 => (intro w0 hSw; (try dsimp only at hSw); go_simp; try with_reducible rfl)
      try simp only [Act.put, List.getElem_toArray, List.getElem_cons_zero, List.getElem_cons_succ, List.setIfInBounds_toArray, List.set_cons_zero, List.set_cons_succ]
      refine wpAnyH_take (i := 7) (v := ?v17) rfl (by kernel_rfl) (by kernel_rfl) (by kernel_rfl) (fun _ _ _ h => h) (Or.inl ⟨by rfl, ?hy17⟩) (by assumption) ?rest17
      case hy17 => (intro w0 hSw; (try dsimp only at hSw); go_simp; try with_reducible rfl)
      try simp only [Act.put, List.getElem_toArray, List.getElem_cons_zero, List.getElem_cons_succ, List.setIfInBounds_toArray, List.set_cons_zero, List.set_cons_succ]
      refine wpAnyH_take (i := 8) (v := ?v18) rfl (by kernel_rfl) (by kernel_rfl) (by kernel_rfl) (fun _ _ _ h => h) (Or.inl ⟨by rfl, ?hy18⟩) (by assumption) ?rest18
      case hy18 => (intro w0 hSw; (try dsimp only at hSw); go_simp; try with_reducible rfl)
      try simp only [Act.put, List.getElem_toArray, List.getElem_cons_zero, List.getElem_cons_succ, List.setIfInBounds_toArray, List.set_cons_zero, List.set_cons_succ]
      refine wpAnyH_ready (rs := [9]) (by kernel_rfl) (by simp) ?_
      refine AllReadyH.cons rfl (fun K hK => ?_) AllReadyH.nil
      go_simp
      go_at_call 25
      refine HA.out.mono ?_
      rintro e w2 ⟨rfl, p2⟩
      have hat := HP.out.kept p2
      have hh := And.intro hat.cell0 hat.cell1
      have P2 := Lib.hid p2
      clear p2 hat
      refine hK.out _ _ ?_ (fun hHeld => ?_)
      · exact hh
      clear hK K
      try simp only [Act.put, List.getElem_toArray, List.getElem_cons_zero, List.getElem_cons_succ, List.setIfInBounds_toArray, List.set_cons_zero, List.set_cons_succ]
      refine wpAnyH_done (by kernel_rfl) ?_ _
      change wpList _ _ _ _ _ _
      have hat := HP.out.kept P2.out
      have d3 := hat.cell3
      have d4 := hat.cell4
      have d2 := hat.cell2
      have d5 := hat.cell5
      have f2 := hat.row.frozen 2
      have f3 := hat.row.frozen 3
      have f4 := hat.row.frozen 4
      have f5 := hat.row.frozen 5
      dsimp only at d2 d3 d4 d5
      clear hHeld hh hat c3 hcb
      go_wp2_with fail
      obtain ⟨hn, hb, hc1, hk⟩ := HK.out
      have hpost := cut_close (y := ⟨f, L, s, lo⟩) (x1 := x1) HP.out P2.out hn.symm (by omega) hb hc1 HM.out HOK1.out
      have HPO := Lib.hid (PostL.after (w1 := w.drew) (below_dr (Below.refl _ w)) (fun k hk => HP.out.lt k hk) hpost)
      refine (sync_any HPO.out.log HS.out).mono ?_
      rintro e w4 ⟨rfl, p4⟩
      have P4 := Lib.hid p4
      clear p4 hpost hn hb hc1 hk
      go_wp2_with fail
      go_ret
      exact ⟨rfl, HPO.out.then P4.out⟩
    · have HM := Lib.hid (show min s k = k by omega)
      have hsk' : (k : Int) < (s : Int) := by omega
      clear hp hok h hyl hr hb hn hs h1 hk hsk
      go_enter Try.func12, Try.ntmps12
      go_wp2_with fail
      refine wp_region_peel2 (by kernel_rfl) (by simp only [List.dropLast_cons_cons, List.dropLast_singleton]; exact rfl) rfl (by kernel_rfl) ?_
      refine wpAny_of_held (S := fun w' => w'.cell? ⟨l, 0, none⟩ = some (ptr d 0) ∧ w'.cell? ⟨l, 1, none⟩ = some (.int .i64 (f : Nat))) _ _ _ _ ?_
      have hHeld : w.drew.cell? ⟨l, 0, none⟩ = some (ptr d 0) ∧ w.drew.cell? ⟨l, 1, none⟩ = some (.int .i64 (f : Nat)) := ⟨HP.out.log.cell0, HP.out.log.cell1⟩
      refine wpAnyH_take (i := 0) (v := ?v19) rfl (by kernel_rfl) (by kernel_rfl) (by kernel_rfl) (fun _ _ _ h => h) (Or.inl ⟨by rfl, ?hy19⟩) (by assumption) ?rest19
      case hy19 => (intro w0 hSw; (try dsimp only at hSw); go_simp; try with_reducible rfl)
      try simp only [Act.put, List.getElem_toArray, List.getElem_cons_zero, List.getElem_cons_succ, List.setIfInBounds_toArray, List.set_cons_zero, List.set_cons_succ]
      refine wpAnyH_take (i := 1) (v := ?v20) rfl (by kernel_rfl) (by kernel_rfl) (by kernel_rfl) (fun _ _ _ h => h) (Or.inl ⟨by rfl, ?hy20⟩) (by assumption) ?rest20
      case hy20 => (intro w0 hSw; (try dsimp only at hSw); go_simp; try with_reducible rfl)
      try simp only [Act.put, List.getElem_toArray, List.getElem_cons_zero, List.getElem_cons_succ, List.setIfInBounds_toArray, List.set_cons_zero, List.set_cons_succ]
      refine wpAnyH_take (i := 2) (v := ?v21) rfl (by kernel_rfl) (by kernel_rfl) (by kernel_rfl) (fun _ _ _ h => h) (Or.inl ⟨by rfl, ?hy21⟩) (by assumption) ?rest21
      case hy21 => (intro w0 hSw; (try dsimp only at hSw); go_simp; try with_reducible rfl)
      try simp only [Act.put, List.getElem_toArray, List.getElem_cons_zero, List.getElem_cons_succ, List.setIfInBounds_toArray, List.set_cons_zero, List.set_cons_succ]
      refine wpAnyH_take (i := 3) (v := ?v22) rfl (by kernel_rfl) (by kernel_rfl) (by kernel_rfl) (fun _ _ _ h => h) (Or.inl ⟨by rfl, ?hy22⟩) (by assumption) ?rest22
      case hy22 => (intro w0 hSw; (try dsimp only at hSw); go_simp; try with_reducible rfl)
      try simp only [Act.put, List.getElem_toArray, List.getElem_cons_zero, List.getElem_cons_succ, List.setIfInBounds_toArray, List.set_cons_zero, List.set_cons_succ]
      refine wpAnyH_take (i := 4) (v := ?v23) rfl (by kernel_rfl) (by kernel_rfl) (by kernel_rfl) (fun _ _ _ h => h) (Or.inl ⟨by rfl, ?hy23⟩) (by assumption) ?rest23
      case hy23 => (intro w0 hSw; (try dsimp only at hSw); go_simp; try with_reducible rfl)
      try simp only [Act.put, List.getElem_toArray, List.getElem_cons_zero, List.getElem_cons_succ, List.setIfInBounds_toArray, List.set_cons_zero, List.set_cons_succ]
      refine wpAnyH_take (i := 5) (v := ?v24) rfl (by kernel_rfl) (by kernel_rfl) (by kernel_rfl) (fun _ _ _ h => h) (Or.inl ⟨by rfl, ?hy24⟩) (by assumption) ?rest24
      case hy24 => (intro w0 hSw; (try dsimp only at hSw); go_simp; try with_reducible rfl)
      try simp only [Act.put, List.getElem_toArray, List.getElem_cons_zero, List.getElem_cons_succ, List.setIfInBounds_toArray, List.set_cons_zero, List.set_cons_succ]
      refine wpAnyH_take (i := 6) (v := ?v25) rfl (by kernel_rfl) (by kernel_rfl) (by kernel_rfl) (fun _ _ _ h => h) (Or.inl ⟨by rfl, ?hy25⟩) (by assumption) ?rest25
      case hy25 => (intro w0 hSw; (try dsimp only at hSw); go_simp; try with_reducible rfl)
      try simp only [Act.put, List.getElem_toArray, List.getElem_cons_zero, List.getElem_cons_succ, List.setIfInBounds_toArray, List.set_cons_zero, List.set_cons_succ]
      refine wpAnyH_take (i := 7) (v := ?v26) rfl (by kernel_rfl) (by kernel_rfl) (by kernel_rfl) (fun _ _ _ h => h) (Or.inl ⟨by rfl, ?hy26⟩) (by assumption) ?rest26
      case hy26 => (intro w0 hSw; (try dsimp only at hSw); go_simp; try with_reducible rfl)
      try simp only [Act.put, List.getElem_toArray, List.getElem_cons_zero, List.getElem_cons_succ, List.setIfInBounds_toArray, List.set_cons_zero, List.set_cons_succ]
      refine wpAnyH_take (i := 8) (v := ?v27) rfl (by kernel_rfl) (by kernel_rfl) (by kernel_rfl) (fun _ _ _ h => h) (Or.inl ⟨by rfl, ?hy27⟩) (by assumption) ?rest27
      case hy27 => (intro w0 hSw; (try dsimp only at hSw); go_simp; try with_reducible rfl)
      try simp only [Act.put, List.getElem_toArray, List.getElem_cons_zero, List.getElem_cons_succ, List.setIfInBounds_toArray, List.set_cons_zero, List.set_cons_succ]
      refine wpAnyH_ready (rs := [9]) (by kernel_rfl) (by simp) ?_
      refine AllReadyH.cons rfl (fun K hK => ?_) AllReadyH.nil
      go_simp
      go_at_call 25
      refine HA.out.mono ?_
      rintro e w2 ⟨rfl, p2⟩
      have hat := HP.out.kept p2
      have hh := And.intro hat.cell0 hat.cell1
      have P2 := Lib.hid p2
      clear p2 hat
      refine hK.out _ _ ?_ (fun hHeld => ?_)
      · exact hh
      clear hK K
      try simp only [Act.put, List.getElem_toArray, List.getElem_cons_zero, List.getElem_cons_succ, List.setIfInBounds_toArray, List.set_cons_zero, List.set_cons_succ]
      refine wpAnyH_done (by kernel_rfl) ?_ _
      change wpList _ _ _ _ _ _
      have hat := HP.out.kept P2.out
      have d3 := hat.cell3
      have d4 := hat.cell4
      have d2 := hat.cell2
      have d5 := hat.cell5
      have f2 := hat.row.frozen 2
      have f3 := hat.row.frozen 3
      have f4 := hat.row.frozen 4
      have f5 := hat.row.frozen 5
      dsimp only at d2 d3 d4 d5
      clear hHeld hh hat c3 hcb
      go_wp2_with fail
      obtain ⟨hn, hb, hc1, hk⟩ := HK.out
      have hpost := cut_close (y := ⟨f, L, s, lo⟩) (x1 := x1) HP.out P2.out hn.symm (by omega) hb hc1 HM.out HOK1.out
      have HPO := Lib.hid (PostL.after (w1 := w.drew) (below_dr (Below.refl _ w)) (fun k hk => HP.out.lt k hk) hpost)
      refine (sync_any HPO.out.log HS.out).mono ?_
      rintro e w4 ⟨rfl, p4⟩
      have P4 := Lib.hid p4
      clear p4 hpost hn hb hc1 hk
      go_wp2_with fail
      go_ret
      exact ⟨rfl, HPO.out.then P4.out⟩
  · rw [if_neg hE] at hs
    simp only [Prod.mk.injEq] at hs
    obtain ⟨rfl, rfl, rfl⟩ := hs
    have hE' : (E1 != 0) = true := by simp [hE]
    have HOK := Lib.hid (show Lg.Ok ⟨f, L, s, lo⟩ x1 from ⟨hok.file, by rw [cut_now h1, if_neg hE]; exact hok.now, hok.fine, hok.sure⟩)
    clear hp hok h hyl hr hb hn h1 hE hk
    go_enter Try.func12, Try.ntmps12
    go_wp2_with fail
    refine wp_region_peel2 (by kernel_rfl) (by simp only [List.dropLast_cons_cons, List.dropLast_singleton]; exact rfl) rfl (by kernel_rfl) ?_
    refine wpAny_of_held (S := fun w' => w'.cell? ⟨l, 0, none⟩ = some (ptr d 0) ∧ w'.cell? ⟨l, 1, none⟩ = some (.int .i64 (f : Nat))) _ _ _ _ ?_
    have hHeld : w.drew.cell? ⟨l, 0, none⟩ = some (ptr d 0) ∧ w.drew.cell? ⟨l, 1, none⟩ = some (.int .i64 (f : Nat)) := ⟨HP.out.log.cell0, HP.out.log.cell1⟩
    refine wpAnyH_take (i := 0) (v := ?v28) rfl (by kernel_rfl) (by kernel_rfl) (by kernel_rfl) (fun _ _ _ h => h) (Or.inl ⟨by rfl, ?hy28⟩) (by assumption) ?rest28
    case hy28 => (intro w0 hSw; (try dsimp only at hSw); go_simp; try with_reducible rfl)
    try simp only [Act.put, List.getElem_toArray, List.getElem_cons_zero, List.getElem_cons_succ, List.setIfInBounds_toArray, List.set_cons_zero, List.set_cons_succ]
    refine wpAnyH_take (i := 1) (v := ?v29) rfl (by kernel_rfl) (by kernel_rfl) (by kernel_rfl) (fun _ _ _ h => h) (Or.inl ⟨by rfl, ?hy29⟩) (by assumption) ?rest29
    case hy29 => (intro w0 hSw; (try dsimp only at hSw); go_simp; try with_reducible rfl)
    try simp only [Act.put, List.getElem_toArray, List.getElem_cons_zero, List.getElem_cons_succ, List.setIfInBounds_toArray, List.set_cons_zero, List.set_cons_succ]
    refine wpAnyH_take (i := 2) (v := ?v30) rfl (by kernel_rfl) (by kernel_rfl) (by kernel_rfl) (fun _ _ _ h => h) (Or.inl ⟨by rfl, ?hy30⟩) (by assumption) ?rest30
    case hy30 => (intro w0 hSw; (try dsimp only at hSw); go_simp; try with_reducible rfl)
    try simp only [Act.put, List.getElem_toArray, List.getElem_cons_zero, List.getElem_cons_succ, List.setIfInBounds_toArray, List.set_cons_zero, List.set_cons_succ]
    refine wpAnyH_take (i := 3) (v := ?v31) rfl (by kernel_rfl) (by kernel_rfl) (by kernel_rfl) (fun _ _ _ h => h) (Or.inl ⟨by rfl, ?hy31⟩) (by assumption) ?rest31
    case hy31 => (intro w0 hSw; (try dsimp only at hSw); go_simp; try with_reducible rfl)
    try simp only [Act.put, List.getElem_toArray, List.getElem_cons_zero, List.getElem_cons_succ, List.setIfInBounds_toArray, List.set_cons_zero, List.set_cons_succ]
    refine wpAnyH_take (i := 4) (v := ?v32) rfl (by kernel_rfl) (by kernel_rfl) (by kernel_rfl) (fun _ _ _ h => h) (Or.inl ⟨by rfl, ?hy32⟩) (by assumption) ?rest32
    case hy32 => (intro w0 hSw; (try dsimp only at hSw); go_simp; try with_reducible rfl)
    try simp only [Act.put, List.getElem_toArray, List.getElem_cons_zero, List.getElem_cons_succ, List.setIfInBounds_toArray, List.set_cons_zero, List.set_cons_succ]
    refine wpAnyH_take (i := 5) (v := ?v33) rfl (by kernel_rfl) (by kernel_rfl) (by kernel_rfl) (fun _ _ _ h => h) (Or.inl ⟨by rfl, ?hy33⟩) (by assumption) ?rest33
    case hy33 => (intro w0 hSw; (try dsimp only at hSw); go_simp; try with_reducible rfl)
    try simp only [Act.put, List.getElem_toArray, List.getElem_cons_zero, List.getElem_cons_succ, List.setIfInBounds_toArray, List.set_cons_zero, List.set_cons_succ]
    refine wpAnyH_take (i := 6) (v := ?v34) rfl (by kernel_rfl) (by kernel_rfl) (by kernel_rfl) (fun _ _ _ h => h) (Or.inl ⟨by rfl, ?hy34⟩) (by assumption) ?rest34
    case hy34 => (intro w0 hSw; (try dsimp only at hSw); go_simp; try with_reducible rfl)
    try simp only [Act.put, List.getElem_toArray, List.getElem_cons_zero, List.getElem_cons_succ, List.setIfInBounds_toArray, List.set_cons_zero, List.set_cons_succ]
    refine wpAnyH_take (i := 7) (v := ?v35) rfl (by kernel_rfl) (by kernel_rfl) (by kernel_rfl) (fun _ _ _ h => h) (Or.inl ⟨by rfl, ?hy35⟩) (by assumption) ?rest35
    case hy35 => (intro w0 hSw; (try dsimp only at hSw); go_simp; try with_reducible rfl)
    try simp only [Act.put, List.getElem_toArray, List.getElem_cons_zero, List.getElem_cons_succ, List.setIfInBounds_toArray, List.set_cons_zero, List.set_cons_succ]
    refine wpAnyH_take (i := 8) (v := ?v36) rfl (by kernel_rfl) (by kernel_rfl) (by kernel_rfl) (fun _ _ _ h => h) (Or.inl ⟨by rfl, ?hy36⟩) (by assumption) ?rest36
    case hy36 => (intro w0 hSw; (try dsimp only at hSw); go_simp; try with_reducible rfl)
    try simp only [Act.put, List.getElem_toArray, List.getElem_cons_zero, List.getElem_cons_succ, List.setIfInBounds_toArray, List.set_cons_zero, List.set_cons_succ]
    refine wpAnyH_ready (rs := [9]) (by kernel_rfl) (by simp) ?_
    refine AllReadyH.cons rfl (fun K hK => ?_) AllReadyH.nil
    go_simp
    go_at_call 25
    refine HA.out.mono ?_
    rintro e w2 ⟨rfl, p2⟩
    have hat := HP.out.kept p2
    have hh := And.intro hat.cell0 hat.cell1
    have P2 := Lib.hid p2
    clear p2 hat
    refine hK.out _ _ ?_ (fun hHeld => ?_)
    · exact hh
    clear hK K
    try simp only [Act.put, List.getElem_toArray, List.getElem_cons_zero, List.getElem_cons_succ, List.setIfInBounds_toArray, List.set_cons_zero, List.set_cons_succ]
    refine wpAnyH_done (by kernel_rfl) ?_ _
    change wpList _ _ _ _ _ _
    clear hHeld hh
    go_wp2_with fail
    go_ret
    exact ⟨rfl, PostL.after (w1 := w.drew) (below_dr (Below.refl _ w)) (fun k hk => HP.out.lt k hk) (HP.out.same P2.out HOK.out)⟩
theorem cut_any (n : Int) (h : IsLog w G l d x y) (hs : cutL x y n = (E, x2, y2)) (hlen : x.loose.length ≤ 1099511627776) :
    Calls Try.prog 12 #[ptr l 0, .int .i64 n] w fun e w' => e = .returned (.int .i64 E) ∧ PostL G l d x2 y2 w w' := by
  have hyl := h.ok.len h.xok
  obtain ⟨F, v, hp, hok⟩ := id h
  by_cases h1 : n < 0 ∨ (y.recs.length : Int) < n
  · unfold cutL at hs
    rw [if_pos h1] at hs
    simp only [Prod.mk.injEq] at hs
    obtain ⟨rfl, rfl, rfl⟩ := hs
    exact (cut_beyond n h1 (by omega) hp.log).mono fun e w' ⟨he, hw⟩ => ⟨he, hw ▸ PostL.refl h⟩
  · by_cases h2 : n = y.recs.length
    · unfold cutL at hs
      rw [if_neg h1, if_pos h2] at hs
      simp only [Prod.mk.injEq] at hs
      obtain ⟨rfl, rfl, rfl⟩ := hs
      subst h2
      exact (cut_all _ rfl (by omega) hp.log).mono fun e w' ⟨he, hw⟩ => ⟨he, hw ▸ PostL.refl h⟩
    · obtain ⟨k, rfl⟩ : ∃ k : Nat, n = k := ⟨n.toNat, by omega⟩
      exact cut_mid k (by omega) h hs hlen
theorem short_close {x3 : D} (hp : Parts w G F l d x y v) (p : Post F d x1 w w1) (q : Post (Grow F w w1) d x3 w1 w2) : (∃ F', Parts w2 (Grow G w w2) F' l d x3 y v) ∧ Only G w w2 := by
  have h1 := p.only.size
  have h2 := q.only.size
  have hpost : Post F d x3 w w2 := by
    refine ⟨q.disk.mono (fun k hk => ?_) fun k hk => ?_, p.only.trans q.only fun k hk hlt => ?_⟩
    · rcases hk with (hk | ⟨hk, hk'⟩) | ⟨hk, hk'⟩
      · exact .inl hk
      · exact .inr ⟨hk, by omega⟩
      · exact .inr ⟨by omega, hk'⟩
    · rcases hk with hk | ⟨_, hk⟩
      · exact q.disk.lt (.inl (.inl hk))
      · exact hk
    · rcases hk with hk | ⟨hk, _⟩
      · exact hk
      · omega
  have h := hp.step hpost (Only.refl _ _) (hp.kept hpost) fun g hg => ⟨.inl hg, Nat.lt_of_lt_of_le (hp.log.recs.lt hg) hpost.only.size⟩
  exact ⟨⟨_, h.1⟩, h.2⟩
set_option maxHeartbeats 1600000 in
set_option maxRecDepth 100000 in
theorem short_any {x3 : D} (hp : Parts w G F l d x y v) (h1 : x.cut y.file (whl y.recs : Nat) = (0, x1)) (h2 : x1.sync = (0, x3)) (hlen : x.loose.length ≤ 1099511627776) :
    Calls Try.prog 23 #[ptr l 0] w fun e w' => e = .returned (.int .i64 0) ∧ (∃ F', Parts w' (Grow G w w') F' l d x3 y v) ∧ Only G w w' := by
  obtain ⟨f, L, s, lo⟩ := y
  dsimp only at h1
  obtain ⟨b, hb⟩ : ∃ b, whl L = b := ⟨_, rfl⟩
  rw [hb] at h1
  have HA := Lib.hid (cut_at h1 w.drew F d (hp.disk.below (below_dr (Below.refl _ w))) hlen)
  have HP := Lib.hid (show Parts w.drew G F l d x ⟨f, L, s, lo⟩ v from hp.below (below_dr (Below.refl _ w)))
  have H2 := Lib.hid h2
  have HB := Lib.hid hb
  have c0 := hp.log.cell0
  have c1 := hp.log.cell1
  have c2 := hp.log.cell2
  dsimp only at c1 c2
  rw [hb] at c2
  clear hp h1 h2 hb
  go_enter Try.func23, Try.ntmps23
  go_wp2_with fail
  refine wp_region_peel2 (by kernel_rfl) (by simp only [List.dropLast_cons_cons, List.dropLast_singleton]; exact rfl) rfl (by kernel_rfl) ?_
  refine wpAny_of_held (S := fun w' => w'.cell? ⟨l, 0, none⟩ = some (ptr d 0) ∧ w'.cell? ⟨l, 1, none⟩ = some (.int .i64 (f : Nat)) ∧ w'.cell? ⟨l, 2, none⟩ = some (.int .i64 (b : Nat))) _ _ _ _ ?_
  have hHeld : w.drew.cell? ⟨l, 0, none⟩ = some (ptr d 0) ∧ w.drew.cell? ⟨l, 1, none⟩ = some (.int .i64 (f : Nat)) ∧ w.drew.cell? ⟨l, 2, none⟩ = some (.int .i64 (b : Nat)) := ⟨c0, c1, c2⟩
  refine wpAnyH_take (i := 0) (v := ?v37) rfl (by kernel_rfl) (by kernel_rfl) (by kernel_rfl) (fun _ _ _ h => h) (Or.inl ⟨by rfl, ?hy37⟩) (by assumption) ?rest37
  case hy37 => (intro w0 hSw; (try dsimp only at hSw); go_simp; try with_reducible rfl)
  try simp only [Act.put, List.getElem_toArray, List.getElem_cons_zero, List.getElem_cons_succ, List.setIfInBounds_toArray, List.set_cons_zero, List.set_cons_succ]
  refine wpAnyH_take (i := 1) (v := ?v38) rfl (by kernel_rfl) (by kernel_rfl) (by kernel_rfl) (fun _ _ _ h => h) (Or.inl ⟨by rfl, ?hy38⟩) (by assumption) ?rest38
  case hy38 => (intro w0 hSw; (try dsimp only at hSw); go_simp; try with_reducible rfl)
  try simp only [Act.put, List.getElem_toArray, List.getElem_cons_zero, List.getElem_cons_succ, List.setIfInBounds_toArray, List.set_cons_zero, List.set_cons_succ]
  refine wpAnyH_take (i := 2) (v := ?v39) rfl (by kernel_rfl) (by kernel_rfl) (by kernel_rfl) (fun _ _ _ h => h) (Or.inl ⟨by rfl, ?hy39⟩) (by assumption) ?rest39
  case hy39 => (intro w0 hSw; (try dsimp only at hSw); go_simp; try with_reducible rfl)
  try simp only [Act.put, List.getElem_toArray, List.getElem_cons_zero, List.getElem_cons_succ, List.setIfInBounds_toArray, List.set_cons_zero, List.set_cons_succ]
  refine wpAnyH_take (i := 3) (v := ?v40) rfl (by kernel_rfl) (by kernel_rfl) (by kernel_rfl) (fun _ _ _ h => h) (Or.inl ⟨by rfl, ?hy40⟩) (by assumption) ?rest40
  case hy40 => (intro w0 hSw; (try dsimp only at hSw); go_simp; try with_reducible rfl)
  try simp only [Act.put, List.getElem_toArray, List.getElem_cons_zero, List.getElem_cons_succ, List.setIfInBounds_toArray, List.set_cons_zero, List.set_cons_succ]
  refine wpAnyH_take (i := 4) (v := ?v41) rfl (by kernel_rfl) (by kernel_rfl) (by kernel_rfl) (fun _ _ _ h => h) (Or.inl ⟨by rfl, ?hy41⟩) (by assumption) ?rest41
  case hy41 => (intro w0 hSw; (try dsimp only at hSw); go_simp; try with_reducible rfl)
  try simp only [Act.put, List.getElem_toArray, List.getElem_cons_zero, List.getElem_cons_succ, List.setIfInBounds_toArray, List.set_cons_zero, List.set_cons_succ]
  refine wpAnyH_take (i := 5) (v := ?v42) rfl (by kernel_rfl) (by kernel_rfl) (by kernel_rfl) (fun _ _ _ h => h) (Or.inl ⟨by rfl, ?hy42⟩) (by assumption) ?rest42
  case hy42 => (intro w0 hSw; (try dsimp only at hSw); go_simp; try with_reducible rfl)
  try simp only [Act.put, List.getElem_toArray, List.getElem_cons_zero, List.getElem_cons_succ, List.setIfInBounds_toArray, List.set_cons_zero, List.set_cons_succ]
  refine wpAnyH_take (i := 6) (v := ?v43) rfl (by kernel_rfl) (by kernel_rfl) (by kernel_rfl) (fun _ _ _ h => h) (Or.inl ⟨by rfl, ?hy43⟩) (by assumption) ?rest43
  case hy43 => (intro w0 hSw; (try dsimp only at hSw); go_simp; try with_reducible rfl)
  try simp only [Act.put, List.getElem_toArray, List.getElem_cons_zero, List.getElem_cons_succ, List.setIfInBounds_toArray, List.set_cons_zero, List.set_cons_succ]
  refine wpAnyH_take (i := 7) (v := ?v44) rfl (by kernel_rfl) (by kernel_rfl) (by kernel_rfl) (fun _ _ _ h => h) (Or.inl ⟨by rfl, ?hy44⟩) (by assumption) ?rest44
  case hy44 => (intro w0 hSw; (try dsimp only at hSw); go_simp; try with_reducible rfl)
  try simp only [Act.put, List.getElem_toArray, List.getElem_cons_zero, List.getElem_cons_succ, List.setIfInBounds_toArray, List.set_cons_zero, List.set_cons_succ]
  refine wpAnyH_take (i := 8) (v := ?v45) rfl (by kernel_rfl) (by kernel_rfl) (by kernel_rfl) (fun _ _ _ h => h) (Or.inl ⟨by rfl, ?hy45⟩) (by assumption) ?rest45
  case hy45 => (intro w0 hSw; (try dsimp only at hSw); go_simp; try with_reducible rfl)
  try simp only [Act.put, List.getElem_toArray, List.getElem_cons_zero, List.getElem_cons_succ, List.setIfInBounds_toArray, List.set_cons_zero, List.set_cons_succ]
  refine wpAnyH_take (i := 9) (v := ?v46) rfl (by kernel_rfl) (by kernel_rfl) (by kernel_rfl) (fun _ _ _ h => h) (Or.inl ⟨by rfl, ?hy46⟩) (by assumption) ?rest46
  case hy46 => (intro w0 hSw; (try dsimp only at hSw); go_simp; try with_reducible rfl)
  try simp only [Act.put, List.getElem_toArray, List.getElem_cons_zero, List.getElem_cons_succ, List.setIfInBounds_toArray, List.set_cons_zero, List.set_cons_succ]
  refine wpAnyH_take (i := 10) (v := ?v47) rfl (by kernel_rfl) (by kernel_rfl) (by kernel_rfl) (fun _ _ _ h => h) (Or.inl ⟨by rfl, ?hy47⟩) (by assumption) ?rest47
  case hy47 => (intro w0 hSw; (try dsimp only at hSw); go_simp; try with_reducible rfl)
  try simp only [Act.put, List.getElem_toArray, List.getElem_cons_zero, List.getElem_cons_succ, List.setIfInBounds_toArray, List.set_cons_zero, List.set_cons_succ]
  refine wpAnyH_take (i := 11) (v := ?v48) rfl (by kernel_rfl) (by kernel_rfl) (by kernel_rfl) (fun _ _ _ h => h) (Or.inl ⟨by rfl, ?hy48⟩) (by assumption) ?rest48
  case hy48 => (intro w0 hSw; (try dsimp only at hSw); go_simp; try with_reducible rfl)
  try simp only [Act.put, List.getElem_toArray, List.getElem_cons_zero, List.getElem_cons_succ, List.setIfInBounds_toArray, List.set_cons_zero, List.set_cons_succ]
  refine wpAnyH_ready (rs := [12]) (by kernel_rfl) (by simp) ?_
  refine AllReadyH.cons rfl (fun K hK => ?_) AllReadyH.nil
  go_simp
  go_at_call 25
  refine HA.out.mono ?_
  rintro e w2 ⟨rfl, p2⟩
  have hat := HP.out.kept p2
  have hh := And.intro hat.cell0 (And.intro hat.cell1 hat.cell2)
  dsimp only at hh
  rw [HB.out] at hh
  have hc0 := hat.cell0
  have HS := Lib.hid (sync_at H2.out w2 _ d p2.disk)
  have P2 := Lib.hid p2
  clear p2 hat
  refine hK.out _ _ ?_ (fun hHeld => ?_)
  · exact hh
  clear hK K
  try simp only [Act.put, List.getElem_toArray, List.getElem_cons_zero, List.getElem_cons_succ, List.setIfInBounds_toArray, List.set_cons_zero, List.set_cons_succ]
  refine wpAnyH_done (by kernel_rfl) ?_ _
  change wpList _ _ _ _ _ _
  clear hHeld hh c0 c1 c2
  go_wp2_with fail
  refine HS.out.mono ?_
  rintro e w3 ⟨rfl, p3⟩
  have P3 := Lib.hid p3
  clear p3
  go_wp2_with fail
  go_ret
  obtain ⟨⟨F', hq⟩, ho⟩ := short_close HP.out P2.out P3.out
  exact ⟨rfl, ⟨F', hq⟩, ⟨ho.os, ho.tape, ho.output, ho.size, ho.block⟩⟩
end
end Go.Proofs.Ytbnnbaoimidfnaa.lg

/- What Sync does; a record is put behind the others. -/
import Derived.Test.YtbnnbaoimidfnaaB
import Derived.Deep.DrawnRows
namespace Go.Proofs.Ytbnnbaoimidfnaa.lg
set_option linter.unusedSimpArgs false
set_option linter.unusedVariables false
open Go.RowKit byt frm dsk
attribute [local go_sem ↓] Go.wp_at_zero Go.wp_at_succ

section
variable {w w' w1 : World} {G F : Nat → Prop} {l d : Nat} {x x2 : D} {y y2 : Lg} {v : Value} {E : Int}
theorem only_two {v : Value} {l i j : Nat} {a b : Value} (w : World) : Only (fun k => k = l ∨ v.ownBlock = some k) w ((w.setCell ⟨l, i, none⟩ a).setCell ⟨l, j, none⟩ b) :=
  ((Only.setCell w l i a).mono fun k hk => .inl hk).then ((Only.setCell _ l j b).mono fun k hk => .inl hk)
theorem only_one {v : Value} {l i : Nat} {a : Value} (w : World) : Only (fun k => k = l ∨ v.ownBlock = some k) w (w.setCell ⟨l, i, none⟩ a) := (Only.setCell w l i a).mono fun k hk => .inl hk
theorem Parts.kept (hp : Parts w G F l d x y v) {x1 : D} (p : Post F d x1 w w1) : LogAt w1 l d y v := hp.log.only p.only hp.fl hp.fv
theorem Parts.same (hp : Parts w G F l d x y v) {x1 : D} (p : Post F d x1 w w1) (hok : y.Ok x1) : PostL G l d x1 y w w1 :=
  PostL.of_step (hp.step p (Only.refl _ _) (hp.kept p) fun g hg => ⟨.inl hg, Nat.lt_of_lt_of_le (hp.log.recs.lt hg) p.only.size⟩) hok
theorem sync_close (hp : Parts w G F l d x y v) {x1 : D} (p : Post F d x1 w w1) (hok : Lg.Ok { y with sure := y.recs.length, loose := false } x1) :
    PostL G l d x1 { y with sure := y.recs.length, loose := false } w ((w1.setCell ⟨l, 4, none⟩ (.int .i64 (y.recs.length : Nat))).setCell ⟨l, 5, none⟩ (.bool false)) := by
  refine PostL.of_step (hp.step p (only_two w1) (v' := v) ?_ fun g hg => ⟨.inl hg, ?_⟩) hok
  · refine LogAt.set (y := { y with sure := y.recs.length }) (LogAt.set (hp.kept p) 4 _ (fun j hj => ?_) rfl) 5 _ (fun j hj => ?_) rfl
    · unfold cellsL
      by_cases h4 : j = 4
      · subst h4; rfl
      · simp [h4]
    · unfold cellsL
      by_cases h4 : j = 5
      · subst h4; rfl
      · rw [if_neg h4]
        by_cases h0 : j = 0
        · simp [h0]
        · by_cases h1 : j = 1
          · simp [h1]
          · by_cases h2 : j = 2
            · simp [h2]
            · by_cases h3 : j = 3
              · simp [h3]
              · simp [h0, h1, h2, h3, show j = 4 from by omega]
  · have := hp.log.recs.lt hg
    have := p.only.size
    simp; omega
set_option maxRecDepth 100000 in
theorem sync_any (h : IsLog w G l d x y) (hs : syncL x y = (E, x2, y2)) : Calls Try.prog 15 #[ptr l 0] w fun e w' => e = .returned (.int .i64 E) ∧ PostL G l d x2 y2 w w' := by
  have hok2 := syncL_ok hs h.ok
  obtain ⟨F, v, hp, hok⟩ := id h
  obtain ⟨f, L, s, b⟩ := y
  have h5 := hp.log.cell5
  have h0 := hp.log.cell0
  dsimp only at h5
  unfold syncL at hs
  cases b with
  | false =>
    rw [if_pos rfl] at hs
    simp only [Prod.mk.injEq] at hs
    obtain ⟨rfl, rfl, rfl⟩ := hs
    have H := Lib.hid h
    clear hp hok h hok2 h0
    go_enter Try.func15, Try.ntmps15
    go_wp2
    go_ret
    exact ⟨rfl, PostL.refl H.out⟩
  | true =>
    rw [if_neg (by simp)] at hs
    obtain ⟨E1, x1, h1⟩ : ∃ E1 x1, x.sync = (E1, x1) := ⟨_, _, rfl⟩
    rw [h1] at hs
    have HS := Lib.hid (sync_at h1 w F d hp.disk)
    have HP := Lib.hid hp
    by_cases hE : E1 = 0
    · subst hE
      rw [if_pos rfl] at hs
      simp only [Prod.mk.injEq] at hs
      obtain ⟨rfl, rfl, rfl⟩ := hs
      have HOK := Lib.hid hok2
      obtain ⟨a, cap, ev⟩ := hp.log.recs.len
      have HV := Lib.hid ev
      clear hp hok h hok2 h1 ev
      go_enter Try.func15, Try.ntmps15
      go_wp2_with fail
      refine HS.out.mono ?_
      rintro e w1 ⟨rfl, p⟩
      have hat := HP.out.kept p
      have c3 := hat.cell3
      rw [HV.out] at c3
      have c4 := hat.cell4
      have c5 := hat.cell5
      have f4 := hat.row.frozen 4
      have f5 := hat.row.frozen 5
      dsimp only at c3 c4 c5
      have P := Lib.hid p
      clear p hat
      go_wp2_with fail
      go_ret
      exact ⟨rfl, sync_close HP.out P.out HOK.out⟩
    · rw [if_neg hE] at hs
      simp only [Prod.mk.injEq] at hs
      obtain ⟨rfl, rfl, rfl⟩ := hs
      have HOK := Lib.hid hok2
      have hE' : (E1 != 0) = true := by simp [hE]
      clear hp hok h hok2 h1 hE
      go_enter Try.func15, Try.ntmps15
      go_wp2_with fail
      refine HS.out.mono ?_
      rintro e w1 ⟨rfl, p⟩
      have P := Lib.hid p
      clear p
      go_wp2_with fail
      go_ret
      exact ⟨rfl, HP.out.same P.out HOK.out⟩
end

/-- Behind add: the log has the record, what belongs to the log alone has turned. -/
structure Added (w w' : World) (l d : Nat) (y : Lg) (v : Value) (r : Fr) : Prop where
  ex : ∃ v', LogAt w' l d { y with recs := y.recs ++ [r] } v' ∧ ∀ g, v'.ownBlock = some g → (v.ownBlock = some g ∨ w.heap.size ≤ g) ∧ g < w'.heap.size
  only : Only (fun k => k = l ∨ v.ownBlock = some k) w w'
theorem info_parts3 : ∃ i, Try.prog.info? 62 = some i ∧ i.zero = some (.agg #[.int .u8 0, .string ⟨#[]⟩, .int .i64 0]) ∧ i.size = 3 ∧ i.bytes = 32 := by
  have h := info62
  cases hi : Try.prog.info? 62 with
  | none => rw [hi] at h; cases h
  | some i => rw [hi] at h; simp only [Option.map_some, Option.some.injEq, Prod.mk.injEq] at h; exact ⟨i, rfl, h.1, h.2.1, h.2.2⟩
theorem cell_on {W : World} {a : Addr} {v : Value} (o : Obj) (h : W.cell? a = some v) : (W.alloc o).cell? a = some v := (World.grownBy_alloc W o none).cell h (fun e => by cases e)
theorem add_close {w w5 : World} {l d b g cap n : Nat} {y : Lg} {v : Value} {r : Fr} {o : Obj} (hat : LogAt w l d y v) (hb : whl y.recs = b) (hn : n = y.recs.length + 1)
    (hrow : Row w5 62 3 (.slice (some ⟨g, 0, none⟩) n cap) (y.recs.length + 1) (rowsFrom 0 y.recs ++ [.int .u8 (r.1.1 : Nat), .string r.1.2, .int .i64 (b : Nat)])) (hg : (w.drew.alloc o).grownBy w5 v.ownBlock)
    (hg2 : v.ownBlock = some g ∨ g = w.heap.size + 1) (hlt : g < w5.heap.size) {m : Int} (hm : m = ((b + fsz r : Nat) : Int)) :
    Added w ((w5.setCell ⟨l, 3, none⟩ (.slice (some ⟨g, 0, none⟩) n cap)).setCell ⟨l, 2, none⟩ (.int .i64 m)) l d y v r := by
  subst hm
  have hsz := hg.size
  have hsz' : w.heap.size + 1 ≤ w5.heap.size := by simpa using hsz
  have hr0 : (w.drew.alloc o).rowIs l 54 6 (cellsL d y v) := World.rowIs.alloc hat.row.drew o
  have hne : some l ≠ v.ownBlock := fun e => hat.ne e.symm
  have hr5 : w5.rowIs l 54 6 (cellsL d y v) := hr0.of_block (hg.block l hr0.lt hne)
  have hgl : g ≠ l := by
    have := hat.lt
    rcases hg2 with h | h
    · rintro rfl; exact hat.ne h
    · omega
  have hok : Only (fun k => k = l ∨ v.ownBlock = some k) w w5 := by
    refine ⟨hg.os, hg.tape, hg.output, by omega, fun k hk hn => ?_⟩
    rw [hg.block k (by simp; omega) (fun e => hn (.inr e.symm)), heap_alloc_old w.drew o hk]
    rfl
  refine ⟨⟨.slice (some ⟨g, 0, none⟩) n cap, ⟨?_, ?_⟩, fun g' hg' => ?_⟩, hok.then (only_two w5)⟩
  · refine ((hr5.set 3 _).set 2 _).congr fun j hj => ?_
    unfold cellsL
    by_cases h0 : j = 0
    · simp [h0]
    · by_cases h1 : j = 1
      · simp [h1]
      · by_cases h2 : j = 2
        · simp [h2, whl_append, whl, hb]
        · by_cases h3 : j = 3
          · simp [h3]
          · by_cases h4 : j = 4
            · simp [h4]
            · simp [h0, h1, h2, h3, h4]
  · show Row _ 62 3 _ (y.recs ++ [r]).length (rowsFrom 0 (y.recs ++ [r]))
    rw [rowsFrom_snoc, List.length_append, hb, Nat.zero_add]
    refine Row.frame (w := w5) hrow fun g' hg' => ?_
    simp [Value.ownBlock] at hg'; subst hg'
    rw [heap_setCell_other _ _ _ _ hgl, heap_setCell_other _ _ _ _ hgl]
  · simp [Value.ownBlock] at hg'; subst hg'
    refine ⟨?_, by simpa using hlt⟩
    rcases hg2 with h | h
    · exact .inl h
    · exact .inr (by omega)
theorem add_held {w w5 : World} {l d b : Nat} {y : Lg} {v : Value} {o : Obj} (hat : LogAt w l d y v) (hb : whl y.recs = b) (hg : (w.drew.alloc o).grownBy w5 v.ownBlock) :
    (w5.cell? ⟨l, 2, none⟩ = some (.int .i64 (b : Nat)) ∧ w5.cell? ⟨l, 3, none⟩ = some v) ∧ w5.frozen? ⟨l, 3, none⟩ = false ∧ w5.frozen? ⟨l, 2, none⟩ = false := by
  have hr0 : (w.drew.alloc o).rowIs l 54 6 (cellsL d y v) := World.rowIs.alloc hat.row.drew o
  have hr5 : w5.rowIs l 54 6 (cellsL d y v) := hr0.of_block (hg.block l hr0.lt fun e => hat.ne e.symm)
  exact ⟨⟨by rw [hr5.cell (by omega), ← hb]; rfl, by rw [hr5.cell (by omega)]; rfl⟩, hr5.frozen 3, hr5.frozen 2⟩
set_option maxHeartbeats 1600000 in
set_option maxRecDepth 100000 in
theorem add_any {l d : Nat} {y : Lg} {v : Value} (r : Fr) (n : Nat) (hn : fsz r = n) (w : World) (hat : LogAt w l d y v) (h1 : y.recs.length ≤ 1099511627776) (h2 : whl y.recs ≤ 1099511627776) :
    Calls Try.prog 22 #[ptr l 0, .int .u8 (r.1.1 : Nat), .string r.1.2, .int .i64 (n : Nat)] w fun e w' => e = .returned (.tuple #[]) ∧ Added w w' l d y v r := by
  obtain ⟨i0, hi, hz0, hz1, hz2⟩ := info_parts3
  obtain ⟨b, hb⟩ : ∃ b, whl y.recs = b := ⟨_, rfl⟩
  obtain ⟨⟨k, p⟩, hkp⟩ := r
  have hn2 : n ≤ 65551 := by rw [← hn]; exact fsz_le _
  rw [hb] at h2
  have c2 := hat.cell2
  rw [hb] at c2
  have c3 := hat.cell3
  have HAT := Lib.hid hat
  have HN := Lib.hid hn
  have HB := Lib.hid hb
  have hw1 : IntKind.i64.wrap ((b : Int) + (n : Int)) = (b : Int) + (n : Int) := by rw [IntKind.wrap_i64]; omega
  have HV := Lib.hid (show ∀ u ∈ [Value.int .u8 (k : Nat), .string p, .int .i64 (b : Nat)], u.oneCell' = true from by simp [Value.oneCell'])
  clear hat hn hb
  dsimp only
  go_enter Try.func22, Try.ntmps22
  go_wp2_with fail
  refine wp_region_peel2 (by kernel_rfl) (by simp only [List.dropLast_cons_cons, List.dropLast_singleton]; exact rfl) rfl (by kernel_rfl) ?_
  refine wpAny_of_held (S := fun w' => w'.cell? ⟨l, 2, none⟩ = some (.int .i64 (b : Nat)) ∧ w'.cell? ⟨l, 3, none⟩ = some v) _ _ _ _ ?_
  have hHeld : w.drew.cell? ⟨l, 2, none⟩ = some (.int .i64 (b : Nat)) ∧ w.drew.cell? ⟨l, 3, none⟩ = some v := ⟨c2, c3⟩
  refine wpAnyH_take (i := 0) (v := ?v1) rfl (by kernel_rfl) (by kernel_rfl) (by kernel_rfl) (fun _ _ _ h => h) (Or.inl ⟨by rfl, ?hy1⟩) (by assumption) ?rest1
  case hy1 => (intro w0 hSw; (try dsimp only at hSw); go_simp; try with_reducible rfl)
  try simp only [Act.put, List.getElem_toArray, List.getElem_cons_zero, List.getElem_cons_succ, List.setIfInBounds_toArray, List.set_cons_zero, List.set_cons_succ]
  refine wpAnyH_take (i := 1) (v := ?v2) rfl (by kernel_rfl) (by kernel_rfl) (by kernel_rfl) (fun _ _ _ h => h) (Or.inl ⟨by rfl, ?hy2⟩) (by assumption) ?rest2
  case hy2 => (intro w0 hSw; (try dsimp only at hSw); go_simp; try with_reducible rfl)
  try simp only [Act.put, List.getElem_toArray, List.getElem_cons_zero, List.getElem_cons_succ, List.setIfInBounds_toArray, List.set_cons_zero, List.set_cons_succ]
  refine wpAnyH_take (i := 2) (v := ?v3) rfl (by kernel_rfl) (by kernel_rfl) (by kernel_rfl) (fun _ _ _ h => h) (Or.inl ⟨by rfl, ?hy3⟩) (by assumption) ?rest3
  case hy3 => (intro w0 hSw; (try dsimp only at hSw); go_simp; try with_reducible rfl)
  try simp only [Act.put, List.getElem_toArray, List.getElem_cons_zero, List.getElem_cons_succ, List.setIfInBounds_toArray, List.set_cons_zero, List.set_cons_succ]
  refine wpAnyH_take (i := 3) (v := ?v4) rfl (by kernel_rfl) (by kernel_rfl) (by kernel_rfl) (fun _ _ _ h => h) (Or.inl ⟨by rfl, ?hy4⟩) (by assumption) ?rest4
  case hy4 => (intro w0 hSw; (try dsimp only at hSw); go_simp; try with_reducible rfl)
  try simp only [Act.put, List.getElem_toArray, List.getElem_cons_zero, List.getElem_cons_succ, List.setIfInBounds_toArray, List.set_cons_zero, List.set_cons_succ]
  refine wpAnyH_take (i := 4) (v := ?v5) rfl (by kernel_rfl) (by kernel_rfl) (by kernel_rfl) (fun _ _ _ h => h) (Or.inl ⟨by rfl, ?hy5⟩) (by assumption) ?rest5
  case hy5 => (intro w0 hSw; (try dsimp only at hSw); go_simp; try with_reducible rfl)
  try simp only [Act.put, List.getElem_toArray, List.getElem_cons_zero, List.getElem_cons_succ, List.setIfInBounds_toArray, List.set_cons_zero, List.set_cons_succ]
  refine wpAnyH_take (i := 5) (v := ?v6) rfl (by kernel_rfl) (by kernel_rfl) (by kernel_rfl) (fun _ _ _ h => h) (Or.inl ⟨by rfl, ?hy6⟩) (by assumption) ?rest6
  case hy6 => (intro w0 hSw; (try dsimp only at hSw); go_simp; try with_reducible rfl)
  try simp only [Act.put, List.getElem_toArray, List.getElem_cons_zero, List.getElem_cons_succ, List.setIfInBounds_toArray, List.set_cons_zero, List.set_cons_succ]
  refine wpAnyH_take (i := 6) (v := ?v7) rfl (by kernel_rfl) (by kernel_rfl) (by kernel_rfl) (fun _ _ _ h => h) (Or.inl ⟨by rfl, ?hy7⟩) (by assumption) ?rest7
  case hy7 => (intro w0 hSw; (try dsimp only at hSw); go_simp; try with_reducible rfl)
  try simp only [Act.put, List.getElem_toArray, List.getElem_cons_zero, List.getElem_cons_succ, List.setIfInBounds_toArray, List.set_cons_zero, List.set_cons_succ]
  refine wpAnyH_take (i := 7) (v := ?v8) rfl (by kernel_rfl) (by kernel_rfl) (by kernel_rfl) (fun _ _ _ h => h) (Or.inl ⟨by rfl, ?hy8⟩) (by assumption) ?rest8
  case hy8 => (intro w0 hSw; (try dsimp only at hSw); go_simp; try with_reducible rfl)
  try simp only [Act.put, List.getElem_toArray, List.getElem_cons_zero, List.getElem_cons_succ, List.setIfInBounds_toArray, List.set_cons_zero, List.set_cons_succ]
  refine wpAnyH_take (i := 8) (v := ?v9) rfl (by kernel_rfl) (by kernel_rfl) (by kernel_rfl) (fun _ _ _ h => h) (Or.inl ⟨by rfl, ?hy9⟩) (by assumption) ?rest9
  case hy9 => (intro w0 hSw; (try dsimp only at hSw); go_simp; try with_reducible rfl)
  try simp only [Act.put, List.getElem_toArray, List.getElem_cons_zero, List.getElem_cons_succ, List.setIfInBounds_toArray, List.set_cons_zero, List.set_cons_succ]
  refine wpAnyH_take (i := 9) (v := ?v10) rfl (by kernel_rfl) (by kernel_rfl) (by kernel_rfl) (fun _ _ _ h => h) (Or.inl ⟨by rfl, ?hy10⟩) (by assumption) ?rest10
  case hy10 => (intro w0 hSw; (try dsimp only at hSw); go_simp; try with_reducible rfl)
  try simp only [Act.put, List.getElem_toArray, List.getElem_cons_zero, List.getElem_cons_succ, List.setIfInBounds_toArray, List.set_cons_zero, List.set_cons_succ]
  refine wpAnyH_take (i := 10) (v := ?v11) rfl (by kernel_rfl) (by kernel_rfl) (by kernel_rfl) (fun _ _ _ h => h) (Or.inl ⟨by rfl, ?hy11⟩) (by assumption) ?rest11
  case hy11 => (intro w0 hSw; (try dsimp only at hSw); go_simp; try with_reducible rfl)
  try simp only [Act.put, List.getElem_toArray, List.getElem_cons_zero, List.getElem_cons_succ, List.setIfInBounds_toArray, List.set_cons_zero, List.set_cons_succ]
  refine wpAnyH_take (i := 11) (v := ?v12) rfl (by kernel_rfl) (by kernel_rfl) (by kernel_rfl) (fun _ _ _ h => h) (Or.inl ⟨by rfl, ?hy12⟩) (by assumption) ?rest12
  case hy12 => (intro w0 hSw; (try dsimp only at hSw); go_simp; try with_reducible rfl)
  try simp only [Act.put, List.getElem_toArray, List.getElem_cons_zero, List.getElem_cons_succ, List.setIfInBounds_toArray, List.set_cons_zero, List.set_cons_succ]
  refine wpAnyH_ready (rs := [12]) (by kernel_rfl) (by simp) ?_
  refine AllReadyH.cons rfl (fun K hK => ?_) AllReadyH.nil
  go_simp
  refine hK.out _ _ ?_ (fun hHeld => ?_)
  · exact ⟨cell_on _ c2, cell_on _ c3⟩
  clear hK K
  try simp only [Act.put, List.getElem_toArray, List.getElem_cons_zero, List.getElem_cons_succ, List.setIfInBounds_toArray, List.set_cons_zero, List.set_cons_succ]
  refine wpAnyH_ready (rs := [13]) (by kernel_rfl) (by simp) ?_
  refine AllReadyH.cons rfl (fun K hK => ?_) AllReadyH.nil
  refine step_append_row _ (by rfl) (.tmp 12) (.tmp 20) 52 (by rfl) 62 i0 (.agg #[.int .u8 0, .string ⟨#[]⟩, .int .i64 0]) 3 32 Try.underlying52 hi hz0 hz1 hz2 rfl (by decide) v y.recs.length (rowsFrom 0 y.recs) (by rfl) (Row.frame (w := w) HAT.out.recs fun g hg => heap_alloc_old w.drew _ (HAT.out.recs.lt hg)) ⟨_, 0, none⟩ 1 1 [.int .u8 (k : Nat), .string p, .int .i64 (b : Nat)] (by rfl) (by rfl) (World.news_of_block (cs := #[.int .u8 (k : Nat), .string p, .int .i64 (b : Nat)]) (t := 62) (fr := (0, 0)) (heap_alloc_new _ _)) HV.out (by omega) (by unfold maxLen; omega) (by omega) _ (World.size_alloc _ _) ?_
  intro g cap w5 hown5 hg5 hat5 hlt5
  obtain ⟨hS5, hf3, hf2⟩ := add_held HAT.out HB.out hg5
  refine hK.out _ _ ?_ (fun hHeld => ?_)
  · exact hS5
  clear hK K
  try simp only [Act.put, List.getElem_toArray, List.getElem_cons_zero, List.getElem_cons_succ, List.setIfInBounds_toArray, List.set_cons_zero, List.set_cons_succ]
  refine wpAnyH_take (i := 14) (v := ?v13) rfl (by kernel_rfl) (by kernel_rfl) (by kernel_rfl) (fun _ _ _ h => h) (Or.inl ⟨by rfl, ?hy13⟩) (by assumption) ?rest13
  case hy13 => (intro w0 hSw; (try dsimp only at hSw); go_simp; try with_reducible rfl)
  try simp only [Act.put, List.getElem_toArray, List.getElem_cons_zero, List.getElem_cons_succ, List.setIfInBounds_toArray, List.set_cons_zero, List.set_cons_succ]
  refine wpAnyH_take (i := 15) (v := ?v14) rfl (by kernel_rfl) (by kernel_rfl) (by kernel_rfl) (fun _ _ _ h => h) (Or.inl ⟨by rfl, ?hy14⟩) (by assumption) ?rest14
  case hy14 => (intro w0 hSw; (try dsimp only at hSw); go_simp; try with_reducible rfl)
  try simp only [Act.put, List.getElem_toArray, List.getElem_cons_zero, List.getElem_cons_succ, List.setIfInBounds_toArray, List.set_cons_zero, List.set_cons_succ]
  refine wpAnyH_done (by kernel_rfl) ?_ _
  change wpList _ _ _ _ _ _
  have hc5 := hS5.1
  have H5 := Lib.hid (And.intro hown5 (And.intro hg5 (And.intro hat5 hlt5)))
  have hS3 := hS5.2
  clear hown5 hg5 hat5 hlt5 hS5 hHeld
  go_wp2_with fail
  go_end0
  obtain ⟨ho, hg, ha, hl⟩ := H5.out
  exact ⟨rfl, add_close (r := ⟨(k, p), hkp⟩) HAT.out HB.out rfl ho hg ha hl (by rw [HN.out]; omega)⟩
end Go.Proofs.Ytbnnbaoimidfnaa.lg

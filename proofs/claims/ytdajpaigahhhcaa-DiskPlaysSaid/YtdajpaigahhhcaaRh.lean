/- What a crash makes of the reference's disk. -/
import Derived.Test.YtdajpaigahhhcaaRg
namespace Go.Proofs.Ytdajpaigahhhcaa.dsk
set_option linter.unusedSimpArgs false
set_option linter.unusedVariables false
open Go.RowKit

theorem cells_of (c : Chg) : ∃ K F N s, chgCells c = [.int .i64 K, .int .i64 F, .int .i64 N, .string s] := by
  cases c with
  | app i s => exact ⟨_, _, _, _, rfl⟩
  | cut i n => exact ⟨_, _, _, _, rfl⟩
  | mov a b => exact ⟨_, _, _, _, rfl⟩
theorem made_len {f : Files} {c : Chg} {room : Nat} (hok : ok room f c) (hroom : room ≤ 4194304) {K F N : Int} {s : ByteArray} (hc : chgCells c = [.int .i64 K, .int .i64 F, .int .i64 N, .string s]) (W : World) :
    Calls Try.prog 49 #[.agg (row16 (strs f)).toArray, .agg #[.int .i64 K, .int .i64 F, .int .i64 N, .string s], .int .i64 s.size] W fun e w' => e = .returned (.agg (row16 (strs (doIt f c))).toArray) ∧ Below W.heap.size W w' := by
  cases c with
  | app i t =>
    simp only [chgCells, List.cons.injEq, Value.int.injEq, Value.string.injEq, and_true, true_and] at hc
    obtain ⟨rfl, rfl, rfl, rfl⟩ := hc
    have hle := le_total f hok.1
    have h2 := hok.2
    have h := made_app f i t t.size W hok.1 (by omega)
    have e : part f (.app i t) t.size = doIt f (.app i t) := by
      show upd f i (f i ++ t.extract 0 (win t.size t.size)) = _
      rw [win_full, extract_whole]; rfl
    rwa [e] at h
  | cut i n =>
    simp only [chgCells, List.cons.injEq, Value.int.injEq, Value.string.injEq, and_true, true_and] at hc
    obtain ⟨rfl, rfl, rfl, rfl⟩ := hc
    exact made_cut f i n _ W hok.1 hok.2
  | mov a b =>
    simp only [chgCells, List.cons.injEq, Value.int.injEq, Value.string.injEq, and_true, true_and] at hc
    obtain ⟨rfl, rfl, rfl, rfl⟩ := hc
    exact made_mov f a b _ W hok.1 hok.2.1
theorem chgs_get (L : List Chg) {q : Nat} {c : Chg} (h : L[q]? = some c) {j : Nat} (hj : j < 4) : (L.flatMap chgCells)[q * 4 + j]? = (chgCells c)[j]? := by
  induction L generalizing q with
  | nil => simp at h
  | cons o L ih =>
    rw [List.flatMap_cons]
    have hl := chgCells_length o
    cases q with
    | zero =>
      simp at h
      subst h
      rw [Nat.zero_mul, Nat.zero_add, List.getElem?_append_left (by omega)]
    | succ q =>
      rw [List.getElem?_append_right (by omega)]
      have e : (q + 1) * 4 + j - (chgCells o).length = q * 4 + j := by omega
      rw [e]
      exact ih (by simpa using h)
theorem chg_at {w : World} {B g c : Nat} {L : List Chg} (h : w.ownsRow B 83 4 (.slice (some ⟨g, 0, none⟩) L.length c) L.length (L.flatMap chgCells)) {q : Nat} {d : Chg} {l : List Value} (hp : L[q]? = some d) (hl : chgCells d = l) :
    w.rangeAt g (q * 4) l := fun j v hj => by
  rw [← hl] at hj
  have hlt : j < 4 := by have := (List.getElem?_eq_some_iff.1 hj).1; rwa [chgCells_length] at this
  have := h.cells (g := g) rfl (q * 4 + j) v (by rw [chgs_get L hp hlt]; exact hj)
  have hadd : (⟨g, 0, none⟩ : Addr).add (q * 4 + j) = ⟨g, q * 4 + j, none⟩ := by unfold Addr.add; split <;> simp_all
  rwa [hadd] at this
/-- Of the loose ones so many have been gone over. -/
def RcRel (w : World) (G : Nat → Prop) (r : Nat) (x : D) (lo : Value) (m : Nat) (i : Value) (wr : World) : Prop :=
  ∃ k : Nat, k ≤ m ∧ i = .int .i64 k ∧ Rf wr G r x.room x.off x.left x.now (run x.sure (x.loose.take k)) lo x.loose ∧ Only (· = r) w wr
theorem take_next {L : List Chg} {k : Nat} {c : Chg} (h : L[k]? = some c) (f : Files) : run f (L.take (k + 1)) = doIt (run f (L.take k)) c := by
  have hlt := (List.getElem?_eq_some_iff.1 h).1
  rw [List.take_succ_eq_append_getElem hlt, run_snoc]
  congr 1
  exact (List.getElem?_eq_some_iff.1 h).2
theorem kept_none {x : D} {n b : Int} {m : Nat} (hm : win n x.loose.length = m) (h : x.loose.length ≤ m) : x.kept n b = run x.sure (x.loose.take m) := by
  unfold D.kept
  rw [hm, List.getElem?_eq_none h]
theorem kept_some {x : D} {n b : Int} {m : Nat} {c : Chg} (hm : win n x.loose.length = m) (h : x.loose[m]? = some c) : x.kept n b = part (run x.sure (x.loose.take m)) c b := by
  unfold D.kept
  rw [hm, h]
theorem rcrash_post {w wr W5 W6 : World} {G : Nat → Prop} {r : Nat} {x : D} {n b : Int} {lo : Value} (hx : IsRef w G r x) (h1 : Only (· = r) w W5) (h5 : Rf W5 G r x.room x.off x.left (x.kept n b) (x.kept n b) lo x.loose) :
    PostR G r (x.crash n b) w (((W5.setCell ⟨r, 33, none⟩ (.slice none 0 0)).setCell ⟨r, 34, none⟩ (.bool false)).setCell ⟨r, 35, none⟩ (.int .i64 (-1))) := by
  have h6 := h5.setLo (lo' := .slice none 0 0) (L' := []) (World.ownsRow_nil _ _ _ _) fun k hk => by simp [Value.ownBlock] at hk
  have h7 := (h6.setOff false).setLeft (-1)
  refine post_of (Below.refl _ _) (((h1.then (Only.setCell W5 r 33 _)).then (Only.setCell _ r 34 _)).then (Only.setCell _ r 35 _)) ⟨_, h7, D.crash_ok hx.ok n b⟩ fun k hk => hx.lt hk
set_option maxHeartbeats 3200000 in
set_option maxRecDepth 100000 in
theorem rcrash_at {x : D} (n b : Int) (w : World) (G : Nat → Prop) (r : Nat) (hx : IsRef w G r x) (hlen : x.loose.length ≤ 300) :
    Calls Try.prog 43 #[ptr r 0, .int .i64 n, .int .i64 b] w fun e w' => e = .returned (.tuple #[]) ∧ PostR G r (x.crash n b) w w' := by
  obtain ⟨lo, hr, hok⟩ := id hx
  obtain ⟨m, hm⟩ : ∃ m, win n x.loose.length = m := ⟨_, rfl⟩
  have hmle : m ≤ x.loose.length := by rw [← hm]; exact win_le _ _
  have hmw : ∀ k : Nat, k < m → (k : Int) < n := fun k hk => by unfold win at hm; omega
  have hmn : m < x.loose.length → n ≤ (m : Int) := fun h => by unfold win at hm; omega
  have HX := Lib.hid hx
  have HOK := Lib.hid hok
  have HM := Lib.hid (fun (_ : Unit) => hm)
  have HMLE := Lib.hid hmle
  have HMW := Lib.hid hmw
  have HMN := Lib.hid hmn
  have HR0 : Hid (Rf w G r x.room x.off x.left x.now (run x.sure (x.loose.take 0)) lo x.loose) := Lib.hid hr
  obtain ⟨al, cl, rfl⟩ : ∃ a c, lo = .slice a x.loose.length c := by
    rcases hr.own.2 with ⟨rfl, h0⟩ | ⟨g, cap, cur, rfl, _⟩
    · exact ⟨none, 0, by rw [h0]⟩
    · exact ⟨_, cap, rfl⟩
  clear hx hr hok hm hmle hmw hmn
  go_enter Try.func43, Try.ntmps43
  go_wp2_with fail
  go_loopw [6] (fun i wr => RcRel w G r x (.slice al x.loose.length cl) m i wr) (fun i _ => m - (intOf i).toNat)
  case atStart => exact ⟨0, Nat.zero_le _, rfl, HR0.out, Only.refl _ _⟩
  case round =>
    obtain ⟨k, hk, rfl, hrf, hon⟩ := hrel
    have h33 := hrf.cell33
    have HRF := Lib.hid hrf
    have HON := Lib.hid hon
    clear hrf hon HR0
    by_cases hlt : k < m
    · have hk1 : (k : Int) < (x.loose.length : Int) := by have := HMLE.out; omega
      have hk2 : (k : Int) < n := HMW.out k hlt
      have hk0 : (0 : Int) ≤ (k : Int) := by omega
      obtain ⟨c, hc⟩ : ∃ c, x.loose[k]? = some c := ⟨_, List.getElem?_eq_getElem (by omega)⟩
      obtain ⟨gl, cl2, hal⟩ := own_form'' HRF.out.own (by omega)
      obtain ⟨rfl, rfl⟩ : al = some ⟨gl, 0, none⟩ ∧ cl = cl2 := by injection hal with h1 h2 h3; exact ⟨h1, h3⟩
      obtain ⟨K, F, N, s, hcc⟩ := cells_of c
      have HGET := Lib.hid hc
      have HCC := Lib.hid hcc
      obtain ⟨g, hg⟩ : ∃ g, run x.sure (x.loose.take k) = g := ⟨_, rfl⟩
      have HG := Lib.hid (fun (_ : Unit) => hg)
      have HMADE := Lib.hid (fun W => made_len (f := g) (by rw [← hg]; exact okRun_get HOK.out.run hc) HOK.out.room2 hcc W)
      rw [hg] at HRF
      have HLT := Lib.hid hlt
      clear hc hal hcc hg hlt hk
      have HS : Hid (∀ W', Below wr.heap.size wr W' → W'.rangeAt r 17 (row16 (strs g)) ∧ W'.cell? ⟨r, 33, none⟩ = some (.slice (some ⟨gl, 0, none⟩) x.loose.length cl) ∧ W'.rangeAt gl (k * 4) [.int .i64 K, .int .i64 F, .int .i64 N, .string s] ∧ W'.cell? ⟨gl, k * 4 + 3, none⟩ = some (.string s)) := Lib.hid fun W' hb' => by
        have hr2 := HRF.out.below hb'
        exact ⟨hr2.rangeSure, hr2.cell33, chg_at hr2.own HGET.out HCC.out, chg_at hr2.own HGET.out HCC.out 3 _ rfl⟩
      go_wp2_with fail
      refine wp_region_peel2 (by kernel_rfl) (by simp only [List.dropLast_cons_cons, List.dropLast_singleton]; exact rfl) rfl (by kernel_rfl) ?_
      refine wpAny_of_held (S := fun W => W.rangeAt r 17 (row16 (strs g)) ∧ W.cell? ⟨r, 33, none⟩ = some (.slice (some ⟨gl, 0, none⟩) x.loose.length cl) ∧ W.rangeAt gl (k * 4) [.int .i64 K, .int .i64 F, .int .i64 N, .string s] ∧ W.cell? ⟨gl, k * 4 + 3, none⟩ = some (.string s)) _ _ _ _ ?_
      have hHeld := HS.out wr.drew (below_drew _)
      refine wpAnyH_take (i := 0) (v := ?v1) rfl (by kernel_rfl) (by kernel_rfl) (by kernel_rfl) (fun _ _ _ h => h) (Or.inl ⟨by rfl, ?hy1⟩) (by assumption) ?rest1
      case hy1 => (intro w0 hSw; (try dsimp only at hSw); go_simp; try with_reducible rfl)
      try simp only [Act.put, List.getElem_toArray, List.getElem_cons_zero, List.getElem_cons_succ, List.setIfInBounds_toArray, List.set_cons_zero, List.set_cons_succ]
      refine wpAnyH_take (i := 1) (v := ?v2) rfl (by kernel_rfl) (by kernel_rfl) (by kernel_rfl) (fun _ _ _ h => h) (Or.inl ⟨by rfl, ?hy2⟩) (by assumption) ?rest2
      case hy2 => (intro w0 hSw; (try dsimp only at hSw); go_simp; try with_reducible rfl)
      try simp only [Act.put, List.getElem_toArray, List.getElem_cons_zero, List.getElem_cons_succ, List.setIfInBounds_toArray, List.set_cons_zero, List.set_cons_succ]
      refine wpAnyH_take (i := 2) (v := ?v3) rfl (by kernel_rfl) (by kernel_rfl) (by kernel_rfl) (fun _ _ _ h => h) (Or.inl ⟨by rfl, ?hy3⟩) (by assumption) ?rest3
      case hy3 => (intro w0 hSw; (try dsimp only at hSw); go_simp; try with_reducible rfl)
      try simp only [Act.put, List.getElem_toArray, List.getElem_cons_zero, List.getElem_cons_succ, List.setIfInBounds_toArray, List.set_cons_zero, List.set_cons_succ]
      refine wpAnyH_take (i := 3) (v := ?v4) rfl (by kernel_rfl) (by kernel_rfl) (by kernel_rfl) (fun _ _ _ h => h) (Or.inl ⟨by rfl, ?hy4⟩) (by assumption) ?rest4
      case hy4 => (intro w0 hSw; (try dsimp only at hSw); go_simp; try with_reducible rfl)
      try simp only [Act.put, List.getElem_toArray, List.getElem_cons_zero, List.getElem_cons_succ, List.setIfInBounds_toArray, List.set_cons_zero, List.set_cons_succ]
      refine wpAnyH_take (i := 4) (v := .agg (row16 (strs g)).toArray) rfl (by kernel_rfl) (by kernel_rfl) (by kernel_rfl) (fun _ _ _ h => h) (yieldsIf_load_mid (by rfl) 43 (.tmp 22) rfl r 17 (by simp [Act.eval]) (row16 (strs g)) _ (fun W hW => hW.1) Try.underlying43 rfl (by rw [row16_length]; exact info43)) (by assumption) ?_
      try simp only [Act.put, List.getElem_toArray, List.getElem_cons_zero, List.getElem_cons_succ, List.setIfInBounds_toArray, List.set_cons_zero, List.set_cons_succ]
      refine wpAnyH_take (i := 5) (v := ?v6) rfl (by kernel_rfl) (by kernel_rfl) (by kernel_rfl) (fun _ _ _ h => h) (Or.inl ⟨by rfl, ?hy6⟩) (by assumption) ?rest6
      case hy6 => (intro w0 hSw; (try dsimp only at hSw); go_simp; try with_reducible rfl)
      try simp only [Act.put, List.getElem_toArray, List.getElem_cons_zero, List.getElem_cons_succ, List.setIfInBounds_toArray, List.set_cons_zero, List.set_cons_succ]
      refine wpAnyH_take (i := 6) (v := ?v7) rfl (by kernel_rfl) (by kernel_rfl) (by kernel_rfl) (fun _ _ _ h => h) (Or.inl ⟨by rfl, ?hy7⟩) (by assumption) ?rest7
      case hy7 => (intro w0 hSw; (try dsimp only at hSw); go_simp; try with_reducible rfl)
      try simp only [Act.put, List.getElem_toArray, List.getElem_cons_zero, List.getElem_cons_succ, List.setIfInBounds_toArray, List.set_cons_zero, List.set_cons_succ]
      refine wpAnyH_take (i := 7) (v := ?v8) rfl (by kernel_rfl) (by kernel_rfl) (by kernel_rfl) (fun _ _ _ h => h) (Or.inl ⟨by rfl, ?hy8⟩) (by assumption) ?rest8
      case hy8 => (intro w0 hSw; (try dsimp only at hSw); go_simp; try with_reducible rfl)
      try simp only [Act.put, List.getElem_toArray, List.getElem_cons_zero, List.getElem_cons_succ, List.setIfInBounds_toArray, List.set_cons_zero, List.set_cons_succ]
      refine wpAnyH_take (i := 8) (v := ?v9) rfl (by kernel_rfl) (by kernel_rfl) (by kernel_rfl) (fun _ _ _ h => h) (Or.inl ⟨by rfl, ?hy9⟩) (by assumption) ?rest9
      case hy9 => (intro w0 hSw; (try dsimp only at hSw); go_simp; try with_reducible rfl)
      try simp only [Act.put, List.getElem_toArray, List.getElem_cons_zero, List.getElem_cons_succ, List.setIfInBounds_toArray, List.set_cons_zero, List.set_cons_succ]
      refine wpAnyH_take (i := 9) (v := ?v10) rfl (by kernel_rfl) (by kernel_rfl) (by kernel_rfl) (fun _ _ _ h => h) (Or.inl ⟨by rfl, ?hy10⟩) (by assumption) ?rest10
      case hy10 => (intro w0 hSw; (try dsimp only at hSw); go_simp; try with_reducible rfl)
      try simp only [Act.put, List.getElem_toArray, List.getElem_cons_zero, List.getElem_cons_succ, List.setIfInBounds_toArray, List.set_cons_zero, List.set_cons_succ]
      refine wpAnyH_take (i := 10) (v := ?v11) rfl (by kernel_rfl) (by kernel_rfl) (by kernel_rfl) (fun _ _ _ h => h) (Or.inl ⟨by rfl, ?hy11⟩) (by assumption) ?rest11
      case hy11 => (intro w0 hSw; (try dsimp only at hSw); go_simp; try with_reducible rfl)
      try simp only [Act.put, List.getElem_toArray, List.getElem_cons_zero, List.getElem_cons_succ, List.setIfInBounds_toArray, List.set_cons_zero, List.set_cons_succ]
      refine wpAnyH_take (i := 11) (v := .agg #[.int .i64 K, .int .i64 F, .int .i64 N, .string s]) rfl (by kernel_rfl) (by kernel_rfl) (by kernel_rfl) (fun _ _ _ h => h) (yieldsIf_load_mid (by rfl) 83 (.tmp 29) rfl gl (k * 4) (by simp [Act.eval]) [.int .i64 K, .int .i64 F, .int .i64 N, .string s] _ (fun W hW => hW.2.2.1) Try.underlying83 rfl info83s) (by assumption) ?_
      try simp only [Act.put, List.getElem_toArray, List.getElem_cons_zero, List.getElem_cons_succ, List.setIfInBounds_toArray, List.set_cons_zero, List.set_cons_succ]
      refine wpAnyH_take (i := 12) (v := ?v13) rfl (by kernel_rfl) (by kernel_rfl) (by kernel_rfl) (fun _ _ _ h => h) (Or.inl ⟨by rfl, ?hy13⟩) (by assumption) ?rest13
      case hy13 => (intro w0 hSw; (try dsimp only at hSw); go_simp; try with_reducible rfl)
      try simp only [Act.put, List.getElem_toArray, List.getElem_cons_zero, List.getElem_cons_succ, List.setIfInBounds_toArray, List.set_cons_zero, List.set_cons_succ]
      refine wpAnyH_take (i := 13) (v := ?v14) rfl (by kernel_rfl) (by kernel_rfl) (by kernel_rfl) (fun _ _ _ h => h) (Or.inl ⟨by rfl, ?hy14⟩) (by assumption) ?rest14
      case hy14 => (intro w0 hSw; (try dsimp only at hSw); go_simp; try with_reducible rfl)
      try simp only [Act.put, List.getElem_toArray, List.getElem_cons_zero, List.getElem_cons_succ, List.setIfInBounds_toArray, List.set_cons_zero, List.set_cons_succ]
      refine wpAnyH_take (i := 14) (v := ?v15) rfl (by kernel_rfl) (by kernel_rfl) (by kernel_rfl) (fun _ _ _ h => h) (Or.inl ⟨by rfl, ?hy15⟩) (by assumption) ?rest15
      case hy15 => (intro w0 hSw; (try dsimp only at hSw); go_simp; try with_reducible rfl)
      try simp only [Act.put, List.getElem_toArray, List.getElem_cons_zero, List.getElem_cons_succ, List.setIfInBounds_toArray, List.set_cons_zero, List.set_cons_succ]
      refine wpAnyH_take (i := 15) (v := ?v16) rfl (by kernel_rfl) (by kernel_rfl) (by kernel_rfl) (fun _ _ _ h => h) (Or.inl ⟨by rfl, ?hy16⟩) (by assumption) ?rest16
      case hy16 => (intro w0 hSw; (try dsimp only at hSw); go_simp; try with_reducible rfl)
      try simp only [Act.put, List.getElem_toArray, List.getElem_cons_zero, List.getElem_cons_succ, List.setIfInBounds_toArray, List.set_cons_zero, List.set_cons_succ]
      refine wpAnyH_take (i := 16) (v := ?v17) rfl (by kernel_rfl) (by kernel_rfl) (by kernel_rfl) (fun _ _ _ h => h) (Or.inl ⟨by rfl, ?hy17⟩) (by assumption) ?rest17
      case hy17 => (intro w0 hSw; (try dsimp only at hSw); go_simp; try with_reducible rfl)
      try simp only [Act.put, List.getElem_toArray, List.getElem_cons_zero, List.getElem_cons_succ, List.setIfInBounds_toArray, List.set_cons_zero, List.set_cons_succ]
      refine wpAnyH_take (i := 17) (v := ?v18) rfl (by kernel_rfl) (by kernel_rfl) (by kernel_rfl) (fun _ _ _ h => h) (Or.inl ⟨by rfl, ?hy18⟩) (by assumption) ?rest18
      case hy18 => (intro w0 hSw; (try dsimp only at hSw); go_simp; try with_reducible rfl)
      try simp only [Act.put, List.getElem_toArray, List.getElem_cons_zero, List.getElem_cons_succ, List.setIfInBounds_toArray, List.set_cons_zero, List.set_cons_succ]
      refine wpAnyH_take (i := 18) (v := ?v19) rfl (by kernel_rfl) (by kernel_rfl) (by kernel_rfl) (fun _ _ _ h => h) (Or.inl ⟨by rfl, ?hy19⟩) (by assumption) ?rest19
      case hy19 => (intro w0 hSw; (try dsimp only at hSw); go_simp; try with_reducible rfl)
      try simp only [Act.put, List.getElem_toArray, List.getElem_cons_zero, List.getElem_cons_succ, List.setIfInBounds_toArray, List.set_cons_zero, List.set_cons_succ]
      refine wpAnyH_take (i := 19) (v := ?v20) rfl (by kernel_rfl) (by kernel_rfl) (by kernel_rfl) (fun _ _ _ h => h) (Or.inl ⟨by rfl, ?hy20⟩) (by assumption) ?rest20
      case hy20 => (intro w0 hSw; (try dsimp only at hSw); go_simp; try with_reducible rfl)
      try simp only [Act.put, List.getElem_toArray, List.getElem_cons_zero, List.getElem_cons_succ, List.setIfInBounds_toArray, List.set_cons_zero, List.set_cons_succ]
      refine wpAnyH_take (i := 20) (v := ?v21) rfl (by kernel_rfl) (by kernel_rfl) (by kernel_rfl) (fun _ _ _ h => h) (Or.inl ⟨by rfl, ?hy21⟩) (by assumption) ?rest21
      case hy21 => (intro w0 hSw; (try dsimp only at hSw); go_simp; try with_reducible rfl)
      try simp only [Act.put, List.getElem_toArray, List.getElem_cons_zero, List.getElem_cons_succ, List.setIfInBounds_toArray, List.set_cons_zero, List.set_cons_succ]
      refine wpAnyH_ready (rs := [21]) (by kernel_rfl) (by simp) ?_
      refine AllReadyH.cons rfl (fun KK hK => ?_) AllReadyH.nil
      go_simp
      go_at_call 49
      refine (HMADE.out _).mono ?_
      rintro e w4 ⟨rfl, hb4⟩
      have HB4 := Lib.hid ((below_drew wr).trans (hb4.mono (Nat.le_refl _)))
      clear hb4
      refine hK.out _ _ ?_ (fun hHeld => ?_)
      · exact HS.out _ HB4.out
      clear hK KK
      try simp only [Act.put, List.getElem_toArray, List.getElem_cons_zero, List.getElem_cons_succ, List.setIfInBounds_toArray, List.set_cons_zero, List.set_cons_succ]
      refine wpAnyH_take (i := 22) (v := ?v22) rfl (by kernel_rfl) (by kernel_rfl) (by kernel_rfl) (fun _ _ _ h => h) (Or.inl ⟨by rfl, ?hy22⟩) (by assumption) ?rest22
      case hy22 => (intro w0 hSw; (try dsimp only at hSw); go_simp; try with_reducible rfl)
      try simp only [Act.put, List.getElem_toArray, List.getElem_cons_zero, List.getElem_cons_succ, List.setIfInBounds_toArray, List.set_cons_zero, List.set_cons_succ]
      refine wpAnyH_take (i := 23) (v := ?v23) rfl (by kernel_rfl) (by kernel_rfl) (by kernel_rfl) (fun _ _ _ h => h) (Or.inl ⟨by rfl, ?hy23⟩) (by assumption) ?rest23
      case hy23 => (intro w0 hSw; (try dsimp only at hSw); go_simp; try with_reducible rfl)
      try simp only [Act.put, List.getElem_toArray, List.getElem_cons_zero, List.getElem_cons_succ, List.setIfInBounds_toArray, List.set_cons_zero, List.set_cons_succ]
      refine wpAnyH_done (by kernel_rfl) ?_ _
      change wpList _ _ _ _ _ _
      refine store_sure (HRF.out.below HB4.out) (g' := doIt g c) (.tmp 42) (.tmp 40) rfl rfl rfl (by simp [Act.eval]) (by simp [Act.eval]) ?_
      intro W5 H5
      clear hHeld
      go_wp2_with fail
      go_roundw
      case rel => exact ⟨k + 1, by have := HLT.out; omega, by go_num, by rw [take_next HGET.out, HG.out ()]; exact H5.out.1, (HON.out.on HB4.out).then H5.out.2⟩
      case measure => have := HLT.out; simp [intOf]; omega
    · obtain rfl : k = m := by omega
      clear hk hlt
      rename Nat => m
      by_cases hL : m < x.loose.length
      · have hk1 : (m : Int) < (x.loose.length : Int) := by omega
        have hk2 : n ≤ (m : Int) := HMN.out hL
        have hk0 : (0 : Int) ≤ (m : Int) := by omega
        obtain ⟨c, hc⟩ : ∃ c, x.loose[m]? = some c := ⟨_, List.getElem?_eq_getElem (by omega)⟩
        obtain ⟨gl, cl2, hal⟩ := own_form'' HRF.out.own (by omega)
        obtain ⟨rfl, rfl⟩ : al = some ⟨gl, 0, none⟩ ∧ cl = cl2 := by injection hal with h1 h2 h3; exact ⟨h1, h3⟩
        obtain ⟨K, F, N, s, hcc⟩ := cells_of c
        have HGET := Lib.hid hc
        have HCC := Lib.hid hcc
        obtain ⟨g, hg⟩ : ∃ g, run x.sure (x.loose.take m) = g := ⟨_, rfl⟩
        have hkept := kept_some (b := b) (HM.out ()) hc
        rw [hg] at hkept
        have hck : wr.cell? ⟨gl, m * 4, none⟩ = some (.int .i64 K) := chg_at HRF.out.own hc hcc 0 _ rfl
        have hokc := okRun_get HOK.out.run hc
        rw [hg] at hokc
        rw [hg] at HRF
        have hlt4 := HOK.out.room2
        by_cases hK : K = 1
        · subst hK
          obtain ⟨i, rfl, rfl, rfl⟩ : ∃ i : Nat, c = .app i s ∧ F = i ∧ N = 0 := by
            cases c with
            | app i t =>
              simp only [chgCells, List.cons.injEq, Value.int.injEq, Value.string.injEq, and_true, true_and] at hcc
              obtain ⟨rfl, rfl, rfl⟩ := hcc
              exact ⟨i, rfl, rfl, rfl⟩
            | cut i n => simp [chgCells] at hcc
            | mov a b => simp [chgCells] at hcc
          have hle := le_total g hokc.1
          have h2 := hokc.2
          have HMADE := Lib.hid (fun W => by have := made_app g i s b W hokc.1 (by omega); rwa [← hkept] at this)
          clear hc hal hcc hg hL hokc hkept hle h2 hlt4
          have HS : Hid (∀ W', Below wr.heap.size wr W' → W'.rangeAt r 17 (row16 (strs g)) ∧ W'.cell? ⟨r, 33, none⟩ = some (.slice (some ⟨gl, 0, none⟩) x.loose.length cl) ∧ W'.rangeAt gl (m * 4) [.int .i64 1, .int .i64 i, .int .i64 0, .string s] ∧ W'.cell? ⟨gl, m * 4 + 3, none⟩ = some (.string s)) := Lib.hid fun W' hb' => by
            have hr2 := HRF.out.below hb'
            exact ⟨hr2.rangeSure, hr2.cell33, chg_at hr2.own HGET.out HCC.out, chg_at hr2.own HGET.out HCC.out 3 _ rfl⟩
          go_wp2_with fail
          refine wp_region_peel2 (by kernel_rfl) (by simp only [List.dropLast_cons_cons, List.dropLast_singleton]; exact rfl) rfl (by kernel_rfl) ?_
          refine wpAny_of_held (S := fun W => W.rangeAt r 17 (row16 (strs g)) ∧ W.cell? ⟨r, 33, none⟩ = some (.slice (some ⟨gl, 0, none⟩) x.loose.length cl) ∧ W.rangeAt gl (m * 4) [.int .i64 1, .int .i64 i, .int .i64 0, .string s] ∧ W.cell? ⟨gl, m * 4 + 3, none⟩ = some (.string s)) _ _ _ _ ?_
          have hHeld := HS.out wr.drew (below_drew _)
          refine wpAnyH_take (i := 0) (v := ?v24) rfl (by kernel_rfl) (by kernel_rfl) (by kernel_rfl) (fun _ _ _ h => h) (Or.inl ⟨by rfl, ?hy24⟩) (by assumption) ?rest24
          case hy24 => (intro w0 hSw; (try dsimp only at hSw); go_simp; try with_reducible rfl)
          try simp only [Act.put, List.getElem_toArray, List.getElem_cons_zero, List.getElem_cons_succ, List.setIfInBounds_toArray, List.set_cons_zero, List.set_cons_succ]
          refine wpAnyH_take (i := 1) (v := ?v25) rfl (by kernel_rfl) (by kernel_rfl) (by kernel_rfl) (fun _ _ _ h => h) (Or.inl ⟨by rfl, ?hy25⟩) (by assumption) ?rest25
          case hy25 => (intro w0 hSw; (try dsimp only at hSw); go_simp; try with_reducible rfl)
          try simp only [Act.put, List.getElem_toArray, List.getElem_cons_zero, List.getElem_cons_succ, List.setIfInBounds_toArray, List.set_cons_zero, List.set_cons_succ]
          refine wpAnyH_take (i := 2) (v := ?v26) rfl (by kernel_rfl) (by kernel_rfl) (by kernel_rfl) (fun _ _ _ h => h) (Or.inl ⟨by rfl, ?hy26⟩) (by assumption) ?rest26
          case hy26 => (intro w0 hSw; (try dsimp only at hSw); go_simp; try with_reducible rfl)
          try simp only [Act.put, List.getElem_toArray, List.getElem_cons_zero, List.getElem_cons_succ, List.setIfInBounds_toArray, List.set_cons_zero, List.set_cons_succ]
          refine wpAnyH_take (i := 3) (v := ?v27) rfl (by kernel_rfl) (by kernel_rfl) (by kernel_rfl) (fun _ _ _ h => h) (Or.inl ⟨by rfl, ?hy27⟩) (by assumption) ?rest27
          case hy27 => (intro w0 hSw; (try dsimp only at hSw); go_simp; try with_reducible rfl)
          try simp only [Act.put, List.getElem_toArray, List.getElem_cons_zero, List.getElem_cons_succ, List.setIfInBounds_toArray, List.set_cons_zero, List.set_cons_succ]
          refine wpAnyH_take (i := 4) (v := .agg (row16 (strs g)).toArray) rfl (by kernel_rfl) (by kernel_rfl) (by kernel_rfl) (fun _ _ _ h => h) (yieldsIf_load_mid (by rfl) 43 (.tmp 66) rfl r 17 (by simp [Act.eval]) (row16 (strs g)) _ (fun W hW => hW.1) Try.underlying43 rfl (by rw [row16_length]; exact info43)) (by assumption) ?_
          try simp only [Act.put, List.getElem_toArray, List.getElem_cons_zero, List.getElem_cons_succ, List.setIfInBounds_toArray, List.set_cons_zero, List.set_cons_succ]
          refine wpAnyH_take (i := 5) (v := ?v29) rfl (by kernel_rfl) (by kernel_rfl) (by kernel_rfl) (fun _ _ _ h => h) (Or.inl ⟨by rfl, ?hy29⟩) (by assumption) ?rest29
          case hy29 => (intro w0 hSw; (try dsimp only at hSw); go_simp; try with_reducible rfl)
          try simp only [Act.put, List.getElem_toArray, List.getElem_cons_zero, List.getElem_cons_succ, List.setIfInBounds_toArray, List.set_cons_zero, List.set_cons_succ]
          refine wpAnyH_take (i := 6) (v := ?v30) rfl (by kernel_rfl) (by kernel_rfl) (by kernel_rfl) (fun _ _ _ h => h) (Or.inl ⟨by rfl, ?hy30⟩) (by assumption) ?rest30
          case hy30 => (intro w0 hSw; (try dsimp only at hSw); go_simp; try with_reducible rfl)
          try simp only [Act.put, List.getElem_toArray, List.getElem_cons_zero, List.getElem_cons_succ, List.setIfInBounds_toArray, List.set_cons_zero, List.set_cons_succ]
          refine wpAnyH_take (i := 7) (v := ?v31) rfl (by kernel_rfl) (by kernel_rfl) (by kernel_rfl) (fun _ _ _ h => h) (Or.inl ⟨by rfl, ?hy31⟩) (by assumption) ?rest31
          case hy31 => (intro w0 hSw; (try dsimp only at hSw); go_simp; try with_reducible rfl)
          try simp only [Act.put, List.getElem_toArray, List.getElem_cons_zero, List.getElem_cons_succ, List.setIfInBounds_toArray, List.set_cons_zero, List.set_cons_succ]
          refine wpAnyH_take (i := 8) (v := ?v32) rfl (by kernel_rfl) (by kernel_rfl) (by kernel_rfl) (fun _ _ _ h => h) (Or.inl ⟨by rfl, ?hy32⟩) (by assumption) ?rest32
          case hy32 => (intro w0 hSw; (try dsimp only at hSw); go_simp; try with_reducible rfl)
          try simp only [Act.put, List.getElem_toArray, List.getElem_cons_zero, List.getElem_cons_succ, List.setIfInBounds_toArray, List.set_cons_zero, List.set_cons_succ]
          refine wpAnyH_take (i := 9) (v := ?v33) rfl (by kernel_rfl) (by kernel_rfl) (by kernel_rfl) (fun _ _ _ h => h) (Or.inl ⟨by rfl, ?hy33⟩) (by assumption) ?rest33
          case hy33 => (intro w0 hSw; (try dsimp only at hSw); go_simp; try with_reducible rfl)
          try simp only [Act.put, List.getElem_toArray, List.getElem_cons_zero, List.getElem_cons_succ, List.setIfInBounds_toArray, List.set_cons_zero, List.set_cons_succ]
          refine wpAnyH_take (i := 10) (v := ?v34) rfl (by kernel_rfl) (by kernel_rfl) (by kernel_rfl) (fun _ _ _ h => h) (Or.inl ⟨by rfl, ?hy34⟩) (by assumption) ?rest34
          case hy34 => (intro w0 hSw; (try dsimp only at hSw); go_simp; try with_reducible rfl)
          try simp only [Act.put, List.getElem_toArray, List.getElem_cons_zero, List.getElem_cons_succ, List.setIfInBounds_toArray, List.set_cons_zero, List.set_cons_succ]
          refine wpAnyH_take (i := 11) (v := .agg #[.int .i64 1, .int .i64 i, .int .i64 0, .string s]) rfl (by kernel_rfl) (by kernel_rfl) (by kernel_rfl) (fun _ _ _ h => h) (yieldsIf_load_mid (by rfl) 83 (.tmp 73) rfl gl (m * 4) (by simp [Act.eval]) [.int .i64 1, .int .i64 i, .int .i64 0, .string s] _ (fun W hW => hW.2.2.1) Try.underlying83 rfl info83s) (by assumption) ?_
          try simp only [Act.put, List.getElem_toArray, List.getElem_cons_zero, List.getElem_cons_succ, List.setIfInBounds_toArray, List.set_cons_zero, List.set_cons_succ]
          refine wpAnyH_take (i := 12) (v := ?v36) rfl (by kernel_rfl) (by kernel_rfl) (by kernel_rfl) (fun _ _ _ h => h) (Or.inl ⟨by rfl, ?hy36⟩) (by assumption) ?rest36
          case hy36 => (intro w0 hSw; (try dsimp only at hSw); go_simp; try with_reducible rfl)
          try simp only [Act.put, List.getElem_toArray, List.getElem_cons_zero, List.getElem_cons_succ, List.setIfInBounds_toArray, List.set_cons_zero, List.set_cons_succ]
          refine wpAnyH_ready (rs := [13]) (by kernel_rfl) (by simp) ?_
          refine AllReadyH.cons rfl (fun KK hK => ?_) AllReadyH.nil
          go_simp
          go_at_call 49
          refine (HMADE.out _).mono ?_
          rintro e w4 ⟨rfl, hb4⟩
          have HB4 := Lib.hid ((below_drew wr).trans (hb4.mono (Nat.le_refl _)))
          clear hb4
          refine hK.out _ _ ?_ (fun hHeld => ?_)
          · exact HS.out _ HB4.out
          clear hK KK
          try simp only [Act.put, List.getElem_toArray, List.getElem_cons_zero, List.getElem_cons_succ, List.setIfInBounds_toArray, List.set_cons_zero, List.set_cons_succ]
          refine wpAnyH_take (i := 14) (v := ?v37) rfl (by kernel_rfl) (by kernel_rfl) (by kernel_rfl) (fun _ _ _ h => h) (Or.inl ⟨by rfl, ?hy37⟩) (by assumption) ?rest37
          case hy37 => (intro w0 hSw; (try dsimp only at hSw); go_simp; try with_reducible rfl)
          try simp only [Act.put, List.getElem_toArray, List.getElem_cons_zero, List.getElem_cons_succ, List.setIfInBounds_toArray, List.set_cons_zero, List.set_cons_succ]
          refine wpAnyH_take (i := 15) (v := ?v38) rfl (by kernel_rfl) (by kernel_rfl) (by kernel_rfl) (fun _ _ _ h => h) (Or.inl ⟨by rfl, ?hy38⟩) (by assumption) ?rest38
          case hy38 => (intro w0 hSw; (try dsimp only at hSw); go_simp; try with_reducible rfl)
          try simp only [Act.put, List.getElem_toArray, List.getElem_cons_zero, List.getElem_cons_succ, List.setIfInBounds_toArray, List.set_cons_zero, List.set_cons_succ]
          refine wpAnyH_done (by kernel_rfl) ?_ _
          change wpList _ _ _ _ _ _
          refine store_sure (HRF.out.below HB4.out) (g' := x.kept n b) (.tmp 78) (.tmp 76) rfl rfl rfl (by simp [Act.eval]) (by simp [Act.eval]) ?_
          intro W5 H5
          clear hHeld
          go_wp2_with (first | (refine wpList_load_mid rfl 43 (.tmp 82) rfl r 17 (by simp [Act.eval]) (row16 (strs (x.kept n b))) _ H5.out.1.rangeSure Try.underlying43 rfl (by rw [row16_length]; exact info43) ?_) | (refine store_now H5.out.1 (f' := x.kept n b) (.tmp 85) (.tmp 83) rfl rfl rfl (by simp [Act.eval]) (by simp [Act.eval]) ?_; intro W6 H6; have hc3 := H6.out.1.cell33; have hc4 := H6.out.1.cell34; have hc5 := H6.out.1.cell35; have hf3 := H6.out.1.row.frozen 33; have hf4 := H6.out.1.row.frozen 34; have hf5 := H6.out.1.row.frozen 35))
          go_end0
          exact ⟨rfl, rcrash_post (wr := wr) (W6 := wr) HX.out (((HON.out.on HB4.out).then H5.out.2).then H6.out.2) H6.out.1⟩
        · have hK' : (K == 1) = false := by simp [hK]
          have hpart : part g c b = g := by
            cases c with
            | app i t =>
              simp only [chgCells, List.cons.injEq, Value.int.injEq, Value.string.injEq, and_true, true_and] at hcc
              exact absurd hcc.1.symm hK
            | cut i n => rfl
            | mov a b => rfl
          rw [hpart] at hkept
          rw [← hkept] at HRF
          clear hc hal hcc hg hL hokc hkept hlt4 hK hpart
          go_upto_region 6 with fail
          go_wp2_with (first | (refine wpList_load_mid rfl 43 (.tmp 82) rfl r 17 (by simp [Act.eval]) (row16 (strs (x.kept n b))) _ HRF.out.rangeSure Try.underlying43 rfl (by rw [row16_length]; exact info43) ?_) | (refine store_now HRF.out (f' := x.kept n b) (.tmp 85) (.tmp 83) rfl rfl rfl (by simp [Act.eval]) (by simp [Act.eval]) ?_; intro W6 H6; have hc3 := H6.out.1.cell33; have hc4 := H6.out.1.cell34; have hc5 := H6.out.1.cell35; have hf3 := H6.out.1.row.frozen 33; have hf4 := H6.out.1.row.frozen 34; have hf5 := H6.out.1.row.frozen 35))
          go_end0
          exact ⟨rfl, rcrash_post (wr := wr) (W6 := wr) HX.out (HON.out.then H6.out.2) H6.out.1⟩
      · have hk1 : (x.loose.length : Int) ≤ (m : Int) := by omega
        have hkept := kept_none (b := b) (HM.out ()) (by omega)
        rw [← hkept] at HRF
        clear hkept hL
        go_upto_region 6 with fail
        go_wp2_with (first | (refine wpList_load_mid rfl 43 (.tmp 82) rfl r 17 (by simp [Act.eval]) (row16 (strs (x.kept n b))) _ HRF.out.rangeSure Try.underlying43 rfl (by rw [row16_length]; exact info43) ?_) | (refine store_now HRF.out (f' := x.kept n b) (.tmp 85) (.tmp 83) rfl rfl rfl (by simp [Act.eval]) (by simp [Act.eval]) ?_; intro W6 H6; have hc3 := H6.out.1.cell33; have hc4 := H6.out.1.cell34; have hc5 := H6.out.1.cell35; have hf3 := H6.out.1.row.frozen 33; have hf4 := H6.out.1.row.frozen 34; have hf5 := H6.out.1.row.frozen 35))
        go_end0
        exact ⟨rfl, rcrash_post (wr := wr) (W6 := wr) HX.out (HON.out.then H6.out.2) H6.out.1⟩
end Go.Proofs.Ytdajpaigahhhcaa.dsk

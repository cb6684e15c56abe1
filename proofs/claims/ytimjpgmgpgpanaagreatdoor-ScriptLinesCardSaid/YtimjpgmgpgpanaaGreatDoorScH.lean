/- What par and take answer, and what they leave in the reader. -/
import Derived.Test.YtimjpgmgpgpanaaGreatDoorScG
namespace Go.Proofs.YtimjpgmgpgpanaaGreatDoor.sc
set_option linter.unusedSimpArgs false
set_option linter.unusedVariables false
open Go.RowKit nam exp jb

theorem IsRdr.setPar {w : World} {B rb : Nat} {vn vs : Value} {rows : List NRow} {r : Rdr} (h : IsRdr w B rb vn vs rows r) (z : Int) :
    IsRdr (w.setCell ⟨rb, 0, none⟩ (.int .i64 z)) B rb vn vs rows ⟨z, r.nodes, r.said⟩ ∧ Below B w (w.setCell ⟨rb, 0, none⟩ (.int .i64 z)) ∧ Kept w (w.setCell ⟨rb, 0, none⟩ (.int .i64 z)) := by
  obtain ⟨h1, h2, h3, h4, h5, h6, h7, h8⟩ := h
  have hk : Kept w (w.setCell ⟨rb, 0, none⟩ (.int .i64 z)) := Kept.setCell h1 (.inl rfl)
  refine ⟨⟨setCell_heap h1, h2, ?_, h4, fun c hc => (h5 c hc).kept hk, hk.row h6 (by decide) (by decide), h7, h8⟩, (Below.refl B w).setCell (p := ⟨rb, 0, none⟩) h2 _, hk⟩
  exact h3.frame fun g hg => Below.heap_setCell _ _ _ _ (fun e => row_ty h3 h1 (by decide) (by rw [hg]; simpa using e))
def ParPost (B rb : Nat) (vs : Value) (r : Rdr) (o : Option Nat) (w : World) (e : Ending) (w' : World) : Prop :=
  (match o with
    | none => e = .returned (.bool false)
    | some n => e = .returned (.bool true) ∧ ∃ vn' rows', IsRdr w' B rb vn' vs rows' ⟨(n : Int), r.nodes, r.said⟩) ∧ Below B w w' ∧ Kept w w'
set_option maxHeartbeats 800000 in
set_option maxRecDepth 1000000 in
theorem par_any {w : World} {B rb : Nat} {vn vs v : Value} {rows : List NRow} {r : Rdr} {ws : List ByteArray} (h : IsRdr w B rb vn vs rows r) (hs : SRow w v ws) (hw : ws.length ≤ 1000) :
    Calls Tryz.prog 42 #[.pointer (some ⟨rb, 0, none⟩), v] w (ParPost B rb vs r (parO ws) w) := by
  have HH := Lib.hid h
  clear h
  obtain ⟨a, c, rfl, hc, h2⟩ := hs
  have HF : Hid (ParPost B rb vs r none w (.returned (.bool false)) w) := Lib.hid ⟨rfl, Below.refl _ _, Kept.refl _⟩
  by_cases hl : ws.length = 2
  · obtain ⟨b, o, rfl, hlt, hcs⟩ := h2 (by omega)
    obtain ⟨p, n, rfl⟩ : ∃ p n, ws = [p, n] := by
      match ws, hl with
      | [p, n], _ => exact ⟨p, n, rfl⟩
    have hc0 : w.cell? ⟨b, o, none⟩ = some (.string p) := hcs 0 (by simp)
    have hc1 : w.cell? ⟨b, o + 1, none⟩ = some (.string n) := hcs 1 (by simp)
    have hc2 : (2 : Int) ≤ (c : Int) := by simp at hc; omega
    clear hcs h2 hlt hl hw hc
    by_cases hp : p = parW
    · have hs : (p.toList == [112, 97, 114]) = true := lex.str_eq (l := [112, 97, 114]) hp
      have HPO : Hid (parO [p, n] = numO n 1) := Lib.hid (by unfold parO; simp only []; rw [if_pos hp])
      rw [HPO.out]
      have HN := Lib.hid (number_any n 1 (by omega) w)
      unfold numV at HN
      obtain ⟨on, hon⟩ : ∃ on, numO n 1 = on := ⟨_, rfl⟩
      rw [hon] at HN ⊢
      obtain ⟨q, hq⟩ : ∃ q, on.getD 0 = q := ⟨_, rfl⟩
      obtain ⟨k, hk⟩ : ∃ k, on.isSome = k := ⟨_, rfl⟩
      rw [hq, hk] at HN
      have HE : Hid (∀ w1, Below w.heap.size w w1 → ParPost B rb vs r on w (.returned (.bool k)) (w1.setCell ⟨rb, 0, none⟩ (.int .i64 (q : Int)))) := Lib.hid (fun w1 hb => by
        have hBw : B ≤ w.heap.size := by have := HH.out.rlt; have := HH.out.2.1; omega
        obtain ⟨k1, k2, k3⟩ := (HH.out.under hb).setPar (q : Int)
        refine ⟨?_, (hb.mono hBw).trans k2, (Kept.of_below hb).trans k3⟩
        cases on with
        | none => rw [← hk]; rfl
        | some z =>
          rw [← hk]
          have hz : z = q := hq
          exact ⟨rfl, vn, rows, by rw [hz]; exact k1⟩)
      clear hp hon hq hk HPO
      go_enter Tryz.func42, Tryz.ntmps42
      go_wp2_with fail
      refine HN.out.mono ?_
      rintro e w1 ⟨rfl, hb1⟩
      obtain ⟨x0, x1, x2, xf⟩ := (HH.out.under hb1).cells
      have xf0 := xf 0
      have HB1 := Lib.hid hb1
      clear xf hb1 hc0 hc1
      go_wp2_with fail
      go_ret
      exact HE.out _ HB1.out
    · have hs : (p.toList == [112, 97, 114]) = false := lex.str_ne (l := [112, 97, 114]) hp
      have HPO : Hid (parO [p, n] = none) := Lib.hid (by unfold parO; simp only []; rw [if_neg hp])
      rw [HPO.out]
      clear hp
      go_enter Tryz.func42, Tryz.ntmps42
      go_wp2_with fail
      go_ret
      exact HF.out
  · have HPO : Hid (parO ws = none) := Lib.hid (by
      unfold parO
      match ws, hl with
      | [], _ => rfl
      | [_], _ => rfl
      | [_, _], h => exact absurd rfl h
      | _ :: _ :: _ :: _, _ => rfl)
    rw [HPO.out]
    obtain ⟨n, hn⟩ : ∃ n, ws.length = n := ⟨_, rfl⟩
    rw [hn] at hl hw hc ⊢
    have hne : ((n : Int) != 2) = true := by simp; omega
    clear hl hn h2
    go_enter Tryz.func42, Tryz.ntmps42
    go_wp2_with fail
    go_ret
    exact HF.out
theorem wordsGo_len (s : ByteArray) : ∀ (l : List (Nat × Nat)) (within : Bool) (b : Nat) (acc x : List ByteArray), wordsGo s within b acc l = some x → x.length ≤ acc.length + l.length + 1
  | [], within, b, acc, x, h => by
    simp only [wordsGo, Option.some.injEq] at h
    rw [← h]
    cases within <;> simp <;> omega
  | (p, r) :: t, within, b, acc, x, h => by
    rw [wordsGo] at h
    rw [List.length_cons]
    split at h
    · split at h
      · split at h
        · have := wordsGo_len s t _ _ _ x h
          rw [List.length_append, List.length_singleton] at this
          omega
        · have := wordsGo_len s t _ _ _ x h
          omega
      · split at h
        · have := wordsGo_len s t _ _ _ x h
          omega
        · have := wordsGo_len s t _ _ _ x h
          omega
    · cases h
theorem words_len (s : ByteArray) : (wordsO s).1.length ≤ 1000 := by
  unfold wordsO
  split
  · simp
  · rename_i h
    split
    · simp
    · rename_i l hl
      have h1 := wordsGo_len s _ _ _ _ _ hl
      have h2 := runesAt_length s 0
      simp only [List.length_nil] at h1
      show l.length ≤ 1000
      omega
theorem nodeO_ne {l : List Nd} {ws : List ByteArray} {text : ByteArray} {colon : Bool} {c : Int} (h : nodeO l ws text colon = .error c) : c ≠ 0 := by
  unfold nodeO at h
  split at h
  · cases h; omega
  · split at h
    · cases h; omega
    · split at h
      · split at h
        · rename_i h1
          cases h; exact h1
        · cases h
      · cases h
/-- A row's slice. -/
theorem row_slice {w : World} {e size n : Nat} {v : Value} {xs : List Value} (h : lg.Row w e size v n xs) : ∃ a c, v = .slice a n c := by
  rcases h.form with ⟨rfl, rfl⟩ | ⟨g, cap, rfl, _⟩
  · exact ⟨_, _, rfl⟩
  · exact ⟨_, _, rfl⟩
def TakePost (B rb : Nat) (vs : Value) (r : Rdr) (o : Except Int (Int × List Nd)) (w : World) (e : Ending) (w' : World) : Prop :=
  (match o with
    | .error c => e = .returned (.int .i64 c) ∧ c ≠ 0
    | .ok q => e = .returned (.int .i64 0) ∧ ∃ vn' rows', IsRdr w' B rb vn' vs rows' ⟨q.1, q.2, r.said⟩) ∧ Below B w w' ∧ Kept w w'
set_option maxHeartbeats 1600000 in
set_option maxRecDepth 1000000 in
theorem take_any {w : World} {B rb : Nat} {vn vs : Value} {rows : List NRow} {r : Rdr} (line : ByteArray) (hls : line.size ≤ 1000000) (hk : KTab w) (h : IsRdr w B rb vn vs rows r) (hl : r.nodes.length ≤ 100000) (hsl : r.said.length ≤ 100000) :
    Calls Tryz.prog 17 #[.pointer (some ⟨rb, 0, none⟩), .string line] w (TakePost B rb vs r (takeO r line) w) := by
  have HH := Lib.hid h
  have HK := Lib.hid hk
  have hBw : B ≤ w.heap.size := by have := h.rlt; have := h.2.1; omega
  have HC := Lib.hid (cut_any line hls w)
  unfold cutV at HC
  have HTK : Hid (takeO r line = if (wordsO (cutO line).1).2 ≠ 0 then .error (wordsO (cutO line).1).2
      else if r.said.length = 0 then
        (if (cutO line).2.2 then .error 130 else match parO (wordsO (cutO line).1).1 with
          | none => .error 130
          | some n => .ok ((n : Int), r.nodes))
      else match nodeO r.nodes (wordsO (cutO line).1).1 (cutO line).2.1 (cutO line).2.2 with
        | .error e => .error e
        | .ok nd => .ok (r.par, r.nodes ++ [nd])) := Lib.hid rfl
  obtain ⟨ah, hah⟩ : ∃ x, (cutO line).1 = x := ⟨_, rfl⟩
  obtain ⟨tx, htx⟩ : ∃ x, (cutO line).2.1 = x := ⟨_, rfl⟩
  obtain ⟨co, hco⟩ : ∃ x, (cutO line).2.2 = x := ⟨_, rfl⟩
  rw [hah, htx, hco] at HC HTK
  clear hah htx hco
  have HW : Hid (∀ w', Calls Tryz.prog 40 #[.string ah] w' (WordsPost ah w')) := Lib.hid (fun w' => words_any ah w')
  unfold WordsPost at HW
  have hwl := words_len ah
  obtain ⟨ws, hws⟩ : ∃ x, (wordsO ah).1 = x := ⟨_, rfl⟩
  obtain ⟨we, hwe⟩ : ∃ x, (wordsO ah).2 = x := ⟨_, rfl⟩
  rw [hws, hwe] at HTK HW
  rw [hws] at hwl
  clear hws hwe
  obtain ⟨T, hT⟩ : ∃ T, takeO r line = T := ⟨_, rfl⟩
  rw [hT] at HTK ⊢
  clear hT
  obtain ⟨sa, sc, hsv⟩ := row_slice h.2.2.2.2.2.1
  obtain ⟨ns, hns⟩ : ∃ n, r.said.length = n := ⟨_, rfl⟩
  rw [hns] at hsv HTK hsl
  subst hsv
  have HNS := Lib.hid hns
  clear h hk hns
  by_cases hwe : we = 0
  · have HT1 : Hid (T = _) := Lib.hid (HTK.out.trans (if_neg (by simp [hwe])))
    clear HTK
    subst hwe
    by_cases hs0 : ns = 0
    · have HT2 : Hid (T = _) := Lib.hid (HT1.out.trans (if_pos hs0))
      clear HT1
      cases co with
      | true =>
        have HT3 : Hid (T = .error 130) := Lib.hid (HT2.out.trans (if_pos rfl))
        have HE : Hid (∀ w', Below w.heap.size w w' → TakePost B rb (.slice sa ns sc) r T w (.returned (.int .i64 130)) w') := Lib.hid (fun w' hb => by
          rw [HT3.out]; exact ⟨⟨rfl, by omega⟩, hb.mono hBw, Kept.of_below hb⟩)
        clear HT2 HT3
        subst hs0
        go_enter Tryz.func17, Tryz.ntmps17
        go_wp2_with fail
        refine HC.out.mono ?_
        rintro e w1 ⟨rfl, hb1⟩
        have HB1 := Lib.hid hb1; clear hb1
        go_wp2_with fail
        refine (HW.out _).mono ?_
        rintro e w2 ⟨v, rfl, ho, hb2⟩
        have HB2 := Lib.hid (HB1.out.trans (hb2.mono HB1.out.size))
        have x2 := (HH.out.under HB2.out).cells.2.2.1
        clear ho hb2
        go_wp2_with fail
        go_ret
        exact HE.out _ HB2.out
      | false =>
        have HT3 : Hid (T = match parO ws with
          | none => .error 130
          | some n => .ok ((n : Int), r.nodes)) := Lib.hid (HT2.out.trans (if_neg (by simp)))
        clear HT2
        have HP : Hid (∀ w' v, Below w.heap.size w w' → SRow w' v ws → Calls Tryz.prog 42 #[.pointer (some ⟨rb, 0, none⟩), v] w' (ParPost B rb (.slice sa ns sc) r (parO ws) w')) := Lib.hid (fun w' v hb hs => par_any (HH.out.under hb) hs hwl)
        obtain ⟨op, hop⟩ : ∃ o, parO ws = o := ⟨_, rfl⟩
        rw [hop] at HP HT3
        clear hop
        subst hs0
        cases op with
        | none =>
          have HE : Hid (∀ w1 w', Below w.heap.size w w1 → Below B w1 w' → Kept w1 w' → TakePost B rb (.slice sa 0 sc) r T w (.returned (.int .i64 130)) w') := Lib.hid (fun w1 w' hb h1 h2 => by
            rw [HT3.out]; exact ⟨⟨rfl, by omega⟩, (hb.mono hBw).trans h1, (Kept.of_below hb).trans h2⟩)
          clear HT3
          go_enter Tryz.func17, Tryz.ntmps17
          go_wp2_with fail
          refine HC.out.mono ?_
          rintro e w1 ⟨rfl, hb1⟩
          have HB1 := Lib.hid hb1; clear hb1
          go_wp2_with fail
          refine (HW.out _).mono ?_
          rintro e w2 ⟨v, rfl, ho, hb2⟩
          have HB2 := Lib.hid (HB1.out.trans (hb2.mono HB1.out.size))
          have x2 := (HH.out.under HB2.out).cells.2.2.1
          have HPC := Lib.hid (HP.out _ v HB2.out (SRow.own ho))
          clear ho hb2
          go_wp2_with fail
          refine HPC.out.mono ?_
          rintro e w3 ⟨rfl, hb3, hk3⟩
          have HB3 := Lib.hid (And.intro hb3 hk3); clear hb3 hk3 x2
          go_wp2_with fail
          go_ret
          exact HE.out _ _ HB2.out HB3.out.1 HB3.out.2
        | some n =>
          have HE : Hid (∀ w1 w' vn' rows', Below w.heap.size w w1 → IsRdr w' B rb vn' (.slice sa 0 sc) rows' ⟨(n : Int), r.nodes, r.said⟩ → Below B w1 w' → Kept w1 w' → TakePost B rb (.slice sa 0 sc) r T w (.returned (.int .i64 0)) w') := Lib.hid (fun w1 w' vn' rows' hb hr h1 h2 => by
            rw [HT3.out]; exact ⟨⟨rfl, _, _, hr⟩, (hb.mono hBw).trans h1, (Kept.of_below hb).trans h2⟩)
          clear HT3
          go_enter Tryz.func17, Tryz.ntmps17
          go_wp2_with fail
          refine HC.out.mono ?_
          rintro e w1 ⟨rfl, hb1⟩
          have HB1 := Lib.hid hb1; clear hb1
          go_wp2_with fail
          refine (HW.out _).mono ?_
          rintro e w2 ⟨v, rfl, ho, hb2⟩
          have HB2 := Lib.hid (HB1.out.trans (hb2.mono HB1.out.size))
          have x2 := (HH.out.under HB2.out).cells.2.2.1
          have HPC := Lib.hid (HP.out _ v HB2.out (SRow.own ho))
          clear ho hb2
          go_wp2_with fail
          refine HPC.out.mono ?_
          rintro e w3 ⟨⟨rfl, vn', rows', hr3⟩, hb3, hk3⟩
          have HB3 := Lib.hid (And.intro hr3 (And.intro hb3 hk3)); clear hr3 hb3 hk3 x2
          go_wp2_with fail
          go_ret
          exact HE.out _ _ _ _ HB2.out HB3.out.1 HB3.out.2.1 HB3.out.2.2
    · have HT2 : Hid (T = _) := Lib.hid (HT1.out.trans (if_neg hs0))
      clear HT1
      have hsp : (0 : Int) < (ns : Int) := by omega
      have HP : Hid (∀ w' v, Below w.heap.size w w' → SRow w' v ws → Calls Tryz.prog 41 #[.pointer (some ⟨rb, 0, none⟩), v, .string tx, .bool co] w' (NodePost B rb (.slice sa ns sc) r (nodeO r.nodes ws tx co) w')) := Lib.hid (fun w' v hb hs => node_any tx co (HK.out.on hb) (HH.out.under hb) hl hs hwl)
      have HNE : Hid (∀ c, nodeO r.nodes ws tx co = .error c → c ≠ 0) := Lib.hid (fun c h => nodeO_ne h)
      obtain ⟨op, hop⟩ : ∃ o, nodeO r.nodes ws tx co = o := ⟨_, rfl⟩
      rw [hop] at HP HT2 HNE
      clear hop hs0
      cases op with
      | error c =>
        have hc0 : c ≠ 0 := HNE.out c rfl
        have HE : Hid (∀ w1 w', Below w.heap.size w w1 → Below B w1 w' → Kept w1 w' → TakePost B rb (.slice sa ns sc) r T w (.returned (.int .i64 c)) w') := Lib.hid (fun w1 w' hb h1 h2 => by
          rw [HT2.out]; exact ⟨⟨rfl, hc0⟩, (hb.mono hBw).trans h1, (Kept.of_below hb).trans h2⟩)
        clear HT2 hc0 HNE
        go_enter Tryz.func17, Tryz.ntmps17
        go_wp2_with fail
        refine HC.out.mono ?_
        rintro e w1 ⟨rfl, hb1⟩
        have HB1 := Lib.hid hb1; clear hb1
        go_wp2_with fail
        refine (HW.out _).mono ?_
        rintro e w2 ⟨v, rfl, ho, hb2⟩
        have HB2 := Lib.hid (HB1.out.trans (hb2.mono HB1.out.size))
        have x2 := (HH.out.under HB2.out).cells.2.2.1
        have HPC := Lib.hid (HP.out _ v HB2.out (SRow.own ho))
        clear ho hb2
        go_wp2_with fail
        refine HPC.out.mono ?_
        rintro e w3 ⟨rfl, hb3, hk3⟩
        have HB3 := Lib.hid (And.intro hb3 hk3); clear hb3 hk3 x2
        go_wp2_with fail
        go_ret
        exact HE.out _ _ HB2.out HB3.out.1 HB3.out.2
      | ok nd =>
        have HE : Hid (∀ w1 w' vn' rows', Below w.heap.size w w1 → IsRdr w' B rb vn' (.slice sa ns sc) rows' ⟨r.par, r.nodes ++ [nd], r.said⟩ → Below B w1 w' → Kept w1 w' → TakePost B rb (.slice sa ns sc) r T w (.returned (.int .i64 0)) w') := Lib.hid (fun w1 w' vn' rows' hb hr h1 h2 => by
          rw [HT2.out]; exact ⟨⟨rfl, _, _, hr⟩, (hb.mono hBw).trans h1, (Kept.of_below hb).trans h2⟩)
        clear HT2 HNE
        go_enter Tryz.func17, Tryz.ntmps17
        go_wp2_with fail
        refine HC.out.mono ?_
        rintro e w1 ⟨rfl, hb1⟩
        have HB1 := Lib.hid hb1; clear hb1
        go_wp2_with fail
        refine (HW.out _).mono ?_
        rintro e w2 ⟨v, rfl, ho, hb2⟩
        have HB2 := Lib.hid (HB1.out.trans (hb2.mono HB1.out.size))
        have x2 := (HH.out.under HB2.out).cells.2.2.1
        have HPC := Lib.hid (HP.out _ v HB2.out (SRow.own ho))
        clear ho hb2
        go_wp2_with fail
        refine HPC.out.mono ?_
        rintro e w3 ⟨⟨rfl, vn', rows', hr3⟩, hb3, hk3⟩
        have HB3 := Lib.hid (And.intro hr3 (And.intro hb3 hk3)); clear hr3 hb3 hk3 x2
        go_wp2_with fail
        go_ret
        exact HE.out _ _ _ _ HB2.out HB3.out.1 HB3.out.2.1 HB3.out.2.2
  · have hne : (we != 0) = true := by simp [hwe]
    have HE : Hid (∀ w', Below w.heap.size w w' → TakePost B rb (.slice sa ns sc) r T w (.returned (.int .i64 we)) w') := Lib.hid (fun w' hb => by
      rw [HTK.out.trans (if_pos hwe)]; exact ⟨⟨rfl, hwe⟩, hb.mono hBw, Kept.of_below hb⟩)
    clear HTK hwe
    go_enter Tryz.func17, Tryz.ntmps17
    go_wp2_with fail
    refine HC.out.mono ?_
    rintro e w1 ⟨rfl, hb1⟩
    have HB1 := Lib.hid hb1; clear hb1
    go_wp2_with fail
    refine (HW.out _).mono ?_
    rintro e w2 ⟨v, rfl, ho, hb2⟩
    have HB2 := Lib.hid (HB1.out.trans (hb2.mono HB1.out.size))
    clear ho hb2
    go_wp2_with fail
    go_ret
    exact HE.out _ HB2.out
end Go.Proofs.YtimjpgmgpgpanaaGreatDoor.sc

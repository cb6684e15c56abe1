/- What par and take answer, and what they leave in the reader. What the reader holds at the end: the job, or what is wrong of the whole. What Parse answers: of every text. Parse, line by line. -/
import Derived.Test.YtepdecnegihhhaaGreatDoorMSd
set_option linter.unusedSimpArgs false
set_option linter.unusedVariables false
namespace Go.Proofs.YtepdecnegihhhaaGreatDoor.sc
section
open Go.RowKit nam exp jb
theorem IsRdr.setPar {w : World} {B rb : Nat} {vn vs : Value} {rows : List NRow} {r : Rdr} (h : IsRdr w B rb vn vs rows r) (z : Int) :
  IsRdr (w.setCell ⟨rb, 0, none⟩ (.int .i64 z)) B rb vn vs rows ⟨z, r.nodes, r.said⟩ ∧ Below B w (w.setCell ⟨rb, 0, none⟩ (.int .i64 z)) ∧ Kept w (w.setCell ⟨rb, 0, none⟩ (.int .i64 z)) := by
 obtain ⟨h1, h2, h3, h4, h5, h6, h7, h8⟩ := h
 have hk : Kept w (w.setCell ⟨rb, 0, none⟩ (.int .i64 z)) := Kept.setCell h1 (.inl rfl)
 refine ⟨⟨setCell_heap h1, h2, ?_, h4, fun c hc => (h5 c hc).kept hk, hk.row h6 (by decide) (by decide), h7, h8⟩, (Below.refl B w).setCell (p := ⟨rb, 0, none⟩) h2 _, hk⟩
 exact h3.frame fun g hg => Below.heap_setCell _ _ _ _ (fun e => row_ty h3 h1 (by decide) (by rw [hg]; simpa using e))
def ParPost (B rb : Nat) (vs : Value) (r : Rdr) (o : Option Nat) (w : World) (e : Ending) (w' : World) : Prop :=
 (match o with
  | none => e = .returned (.bool false)
  | some n => e = .returned (.bool true) ∧ ∃ vn' rows', IsRdr w' B rb vn' vs rows' ⟨(n : Int), r.nodes, r.said⟩) ∧ Below B w w' ∧ Kept w w'
set_option maxHeartbeats 800000 in
set_option maxRecDepth 1000000 in
theorem par_any {w : World} {B rb : Nat} {vn vs v : Value} {rows : List NRow} {r : Rdr} {ws : List ByteArray} (h : IsRdr w B rb vn vs rows r) (hs : SRow w v ws) (hw : ws.length ≤ 1000) :
  Calls Tryz.prog 75 #[.pointer (some ⟨rb, 0, none⟩), v] w (ParPost B rb vs r (parO ws) w) := by
 have HH := Lib.hid h
 clear h
 obtain ⟨a, c, rfl, hc, h2⟩ := hs
 have HF : Hid (ParPost B rb vs r none w (.returned (.bool false)) w) := Lib.hid ⟨rfl, Below.refl _ _, Kept.refl _⟩
 by_cases hl : ws.length = 2
 · obtain ⟨b, o, rfl, hlt, hcs⟩ := h2 (by omega)
   obtain ⟨p, n, rfl⟩ : ∃ p n, ws = [p, n] := by
    match ws, hl with
    | [p, n], _ => exact ⟨p, n, rfl⟩
   have hc0 : w.cell? ⟨b, o, none⟩ = some (.string p) := hcs 0 (by simp)
   have hc1 : w.cell? ⟨b, o + 1, none⟩ = some (.string n) := hcs 1 (by simp)
   have hc2 : (2 : Int) ≤ (c : Int) := by simp at hc; omega
   clear hcs h2 hlt hl hw hc
   by_cases hp : p = parW
   · have hs : (p.toList == [112, 97, 114]) = true := lex.str_eq (l := [112, 97, 114]) hp
     have HPO : Hid (parO [p, n] = numO n 1) := Lib.hid (by unfold parO; simp only []; rw [if_pos hp])
     rw [HPO.out]
     have HN := Lib.hid (number_any n 1 (by omega) w)
     unfold numV at HN
     obtain ⟨on, hon⟩ : ∃ on, numO n 1 = on := ⟨_, rfl⟩
     rw [hon] at HN ⊢
     obtain ⟨q, hq⟩ : ∃ q, on.getD 0 = q := ⟨_, rfl⟩
     obtain ⟨k, hk⟩ : ∃ k, on.isSome = k := ⟨_, rfl⟩
     rw [hq, hk] at HN
     have HE : Hid (∀ w1, Below w.heap.size w w1 → ParPost B rb vs r on w (.returned (.bool k)) (w1.setCell ⟨rb, 0, none⟩ (.int .i64 (q : Int)))) := Lib.hid (fun w1 hb => by
      have hBw : B ≤ w.heap.size := by have := HH.out.rlt; have := HH.out.2.1; omega
      obtain ⟨k1, k2, k3⟩ := (HH.out.under hb).setPar (q : Int)
      refine ⟨?_, (hb.mono hBw).trans k2, (Kept.of_below hb).trans k3⟩
      cases on with
      | none => rw [← hk]; rfl
      | some z =>
       rw [← hk]
       have hz : z = q := hq
       exact ⟨rfl, vn, rows, by rw [hz]; exact k1⟩)
     clear hp hon hq hk HPO
     go_enter Tryz.func75, Tryz.ntmps75
     go_wp2_with fail
     refine HN.out.mono ?_
     rintro e w1 ⟨rfl, hb1⟩
     obtain ⟨x0, x1, x2, xf⟩ := (HH.out.under hb1).cells
     have xf0 := xf 0
     have HB1 := Lib.hid hb1
     clear xf hb1 hc0 hc1
     go_wp2_with fail
     go_ret
     exact HE.out _ HB1.out
   · have hs : (p.toList == [112, 97, 114]) = false := lex.str_ne (l := [112, 97, 114]) hp
     have HPO : Hid (parO [p, n] = none) := Lib.hid (by unfold parO; simp only []; rw [if_neg hp])
     rw [HPO.out]
     clear hp
     go_enter Tryz.func75, Tryz.ntmps75
     go_wp2_with fail
     go_ret
     exact HF.out
 · have HPO : Hid (parO ws = none) := Lib.hid (by
    unfold parO
    match ws, hl with
    | [], _ => rfl
    | [_], _ => rfl
    | [_, _], h => exact absurd rfl h
    | _ :: _ :: _ :: _, _ => rfl)
   rw [HPO.out]
   obtain ⟨n, hn⟩ : ∃ n, ws.length = n := ⟨_, rfl⟩
   rw [hn] at hl hw hc ⊢
   have hne : ((n : Int) != 2) = true := by simp; omega
   clear hl hn h2
   go_enter Tryz.func75, Tryz.ntmps75
   go_wp2_with fail
   go_ret
   exact HF.out
theorem wordsGo_len (s : ByteArray) : ∀ (l : List (Nat × Nat)) (within : Bool) (b : Nat) (acc x : List ByteArray), wordsGo s within b acc l = some x → x.length ≤ acc.length + l.length + 1
 | [], within, b, acc, x, h => by
  simp only [wordsGo, Option.some.injEq] at h
  rw [← h]
  cases within <;> simp <;> omega
 | (p, r) :: t, within, b, acc, x, h => by
  rw [wordsGo] at h
  rw [List.length_cons]
  split at h
  · split at h
    · split at h
      · have := wordsGo_len s t _ _ _ x h
        rw [List.length_append, List.length_singleton] at this
        omega
      · have := wordsGo_len s t _ _ _ x h
        omega
    · split at h
      · have := wordsGo_len s t _ _ _ x h
        omega
      · have := wordsGo_len s t _ _ _ x h
        omega
  · cases h
theorem words_len (s : ByteArray) : (wordsO s).1.length ≤ 1000 := by
 unfold wordsO
 split
 · simp
 · rename_i h
   split
   · simp
   · rename_i l hl
     have h1 := wordsGo_len s _ _ _ _ _ hl
     have h2 := runesAt_length s 0
     simp only [List.length_nil] at h1
     show l.length ≤ 1000
     omega
theorem nodeO_ne {l : List Nd} {ws : List ByteArray} {text : ByteArray} {colon : Bool} {c : Int} (h : nodeO l ws text colon = .error c) : c ≠ 0 := by
 unfold nodeO at h
 split at h
 · cases h; omega
 · split at h
   · cases h; omega
   · split at h
     · split at h
       · rename_i h1
         cases h; exact h1
       · cases h
     · cases h
theorem row_slice {w : World} {e size n : Nat} {v : Value} {xs : List Value} (h : lg.Row w e size v n xs) : ∃ a c, v = .slice a n c := by
 rcases h.form with ⟨rfl, rfl⟩ | ⟨g, cap, rfl, _⟩
 · exact ⟨_, _, rfl⟩
 · exact ⟨_, _, rfl⟩
def TakePost (B rb : Nat) (vs : Value) (r : Rdr) (o : Except Int (Int × List Nd)) (w : World) (e : Ending) (w' : World) : Prop :=
 (match o with
  | .error c => e = .returned (.int .i64 c) ∧ c ≠ 0
  | .ok q => e = .returned (.int .i64 0) ∧ ∃ vn' rows', IsRdr w' B rb vn' vs rows' ⟨q.1, q.2, r.said⟩) ∧ Below B w w' ∧ Kept w w'
set_option maxHeartbeats 1600000 in
set_option maxRecDepth 1000000 in
theorem take_any {w : World} {B rb : Nat} {vn vs : Value} {rows : List NRow} {r : Rdr} (line : ByteArray) (hls : line.size ≤ 1000000) (hk : KTab w) (h : IsRdr w B rb vn vs rows r) (hl : r.nodes.length ≤ 100000) (hsl : r.said.length ≤ 100000) :
  Calls Tryz.prog 45 #[.pointer (some ⟨rb, 0, none⟩), .string line] w (TakePost B rb vs r (takeO r line) w) := by
 have HH := Lib.hid h
 have HK := Lib.hid hk
 have hBw : B ≤ w.heap.size := by have := h.rlt; have := h.2.1; omega
 have HC := Lib.hid (cut_any line hls w)
 unfold cutV at HC
 have HTK : Hid (takeO r line = if (wordsO (cutO line).1).2 ≠ 0 then .error (wordsO (cutO line).1).2
   else if r.said.length = 0 then
    (if (cutO line).2.2 then .error 130 else match parO (wordsO (cutO line).1).1 with
     | none => .error 130
     | some n => .ok ((n : Int), r.nodes))
   else match nodeO r.nodes (wordsO (cutO line).1).1 (cutO line).2.1 (cutO line).2.2 with
    | .error e => .error e
    | .ok nd => .ok (r.par, r.nodes ++ [nd])) := Lib.hid rfl
 obtain ⟨ah, hah⟩ : ∃ x, (cutO line).1 = x := ⟨_, rfl⟩
 obtain ⟨tx, htx⟩ : ∃ x, (cutO line).2.1 = x := ⟨_, rfl⟩
 obtain ⟨co, hco⟩ : ∃ x, (cutO line).2.2 = x := ⟨_, rfl⟩
 rw [hah, htx, hco] at HC HTK
 clear hah htx hco
 have HW : Hid (∀ w', Calls Tryz.prog 73 #[.string ah] w' (WordsPost ah w')) := Lib.hid (fun w' => words_any ah w')
 unfold WordsPost at HW
 have hwl := words_len ah
 obtain ⟨ws, hws⟩ : ∃ x, (wordsO ah).1 = x := ⟨_, rfl⟩
 obtain ⟨we, hwe⟩ : ∃ x, (wordsO ah).2 = x := ⟨_, rfl⟩
 rw [hws, hwe] at HTK HW
 rw [hws] at hwl
 clear hws hwe
 obtain ⟨T, hT⟩ : ∃ T, takeO r line = T := ⟨_, rfl⟩
 rw [hT] at HTK ⊢
 clear hT
 obtain ⟨sa, sc, hsv⟩ := row_slice h.2.2.2.2.2.1
 obtain ⟨ns, hns⟩ : ∃ n, r.said.length = n := ⟨_, rfl⟩
 rw [hns] at hsv HTK hsl
 subst hsv
 have HNS := Lib.hid hns
 clear h hk hns
 by_cases hwe : we = 0
 · have HT1 : Hid (T = _) := Lib.hid (HTK.out.trans (if_neg (by simp [hwe])))
   clear HTK
   subst hwe
   by_cases hs0 : ns = 0
   · have HT2 : Hid (T = _) := Lib.hid (HT1.out.trans (if_pos hs0))
     clear HT1
     cases co with
     | true =>
      have HT3 : Hid (T = .error 130) := Lib.hid (HT2.out.trans (if_pos rfl))
      have HE : Hid (∀ w', Below w.heap.size w w' → TakePost B rb (.slice sa ns sc) r T w (.returned (.int .i64 130)) w') := Lib.hid (fun w' hb => by
       rw [HT3.out]; exact ⟨⟨rfl, by omega⟩, hb.mono hBw, Kept.of_below hb⟩)
      clear HT2 HT3
      subst hs0
      go_enter Tryz.func45, Tryz.ntmps45
      go_wp2_with fail
      refine HC.out.mono ?_
      rintro e w1 ⟨rfl, hb1⟩
      have HB1 := Lib.hid hb1; clear hb1
      go_wp2_with fail
      refine (HW.out _).mono ?_
      rintro e w2 ⟨v, rfl, ho, hb2⟩
      have HB2 := Lib.hid (HB1.out.trans (hb2.mono HB1.out.size))
      have x2 := (HH.out.under HB2.out).cells.2.2.1
      clear ho hb2
      go_wp2_with fail
      go_ret
      exact HE.out _ HB2.out
     | false =>
      have HT3 : Hid (T = match parO ws with
       | none => .error 130
       | some n => .ok ((n : Int), r.nodes)) := Lib.hid (HT2.out.trans (if_neg (by simp)))
      clear HT2
      have HP : Hid (∀ w' v, Below w.heap.size w w' → SRow w' v ws → Calls Tryz.prog 75 #[.pointer (some ⟨rb, 0, none⟩), v] w' (ParPost B rb (.slice sa ns sc) r (parO ws) w')) := Lib.hid (fun w' v hb hs => par_any (HH.out.under hb) hs hwl)
      obtain ⟨op, hop⟩ : ∃ o, parO ws = o := ⟨_, rfl⟩
      rw [hop] at HP HT3
      clear hop
      subst hs0
      cases op with
      | none =>
       have HE : Hid (∀ w1 w', Below w.heap.size w w1 → Below B w1 w' → Kept w1 w' → TakePost B rb (.slice sa 0 sc) r T w (.returned (.int .i64 130)) w') := Lib.hid (fun w1 w' hb h1 h2 => by
        rw [HT3.out]; exact ⟨⟨rfl, by omega⟩, (hb.mono hBw).trans h1, (Kept.of_below hb).trans h2⟩)
       clear HT3
       go_enter Tryz.func45, Tryz.ntmps45
       go_wp2_with fail
       refine HC.out.mono ?_
       rintro e w1 ⟨rfl, hb1⟩
       have HB1 := Lib.hid hb1; clear hb1
       go_wp2_with fail
       refine (HW.out _).mono ?_
       rintro e w2 ⟨v, rfl, ho, hb2⟩
       have HB2 := Lib.hid (HB1.out.trans (hb2.mono HB1.out.size))
       have x2 := (HH.out.under HB2.out).cells.2.2.1
       have HPC := Lib.hid (HP.out _ v HB2.out (SRow.own ho))
       clear ho hb2
       go_wp2_with fail
       refine HPC.out.mono ?_
       rintro e w3 ⟨rfl, hb3, hk3⟩
       have HB3 := Lib.hid (And.intro hb3 hk3); clear hb3 hk3 x2
       go_wp2_with fail
       go_ret
       exact HE.out _ _ HB2.out HB3.out.1 HB3.out.2
      | some n =>
       have HE : Hid (∀ w1 w' vn' rows', Below w.heap.size w w1 → IsRdr w' B rb vn' (.slice sa 0 sc) rows' ⟨(n : Int), r.nodes, r.said⟩ → Below B w1 w' → Kept w1 w' → TakePost B rb (.slice sa 0 sc) r T w (.returned (.int .i64 0)) w') := Lib.hid (fun w1 w' vn' rows' hb hr h1 h2 => by
        rw [HT3.out]; exact ⟨⟨rfl, _, _, hr⟩, (hb.mono hBw).trans h1, (Kept.of_below hb).trans h2⟩)
       clear HT3
       go_enter Tryz.func45, Tryz.ntmps45
       go_wp2_with fail
       refine HC.out.mono ?_
       rintro e w1 ⟨rfl, hb1⟩
       have HB1 := Lib.hid hb1; clear hb1
       go_wp2_with fail
       refine (HW.out _).mono ?_
       rintro e w2 ⟨v, rfl, ho, hb2⟩
       have HB2 := Lib.hid (HB1.out.trans (hb2.mono HB1.out.size))
       have x2 := (HH.out.under HB2.out).cells.2.2.1
       have HPC := Lib.hid (HP.out _ v HB2.out (SRow.own ho))
       clear ho hb2
       go_wp2_with fail
       refine HPC.out.mono ?_
       rintro e w3 ⟨⟨rfl, vn', rows', hr3⟩, hb3, hk3⟩
       have HB3 := Lib.hid (And.intro hr3 (And.intro hb3 hk3)); clear hr3 hb3 hk3 x2
       go_wp2_with fail
       go_ret
       exact HE.out _ _ _ _ HB2.out HB3.out.1 HB3.out.2.1 HB3.out.2.2
   · have HT2 : Hid (T = _) := Lib.hid (HT1.out.trans (if_neg hs0))
     clear HT1
     have hsp : (0 : Int) < (ns : Int) := by omega
     have HP : Hid (∀ w' v, Below w.heap.size w w' → SRow w' v ws → Calls Tryz.prog 74 #[.pointer (some ⟨rb, 0, none⟩), v, .string tx, .bool co] w' (NodePost B rb (.slice sa ns sc) r (nodeO r.nodes ws tx co) w')) := Lib.hid (fun w' v hb hs => node_any tx co (HK.out.on hb) (HH.out.under hb) hl hs hwl)
     have HNE : Hid (∀ c, nodeO r.nodes ws tx co = .error c → c ≠ 0) := Lib.hid (fun c h => nodeO_ne h)
     obtain ⟨op, hop⟩ : ∃ o, nodeO r.nodes ws tx co = o := ⟨_, rfl⟩
     rw [hop] at HP HT2 HNE
     clear hop hs0
     cases op with
     | error c =>
      have hc0 : c ≠ 0 := HNE.out c rfl
      have HE : Hid (∀ w1 w', Below w.heap.size w w1 → Below B w1 w' → Kept w1 w' → TakePost B rb (.slice sa ns sc) r T w (.returned (.int .i64 c)) w') := Lib.hid (fun w1 w' hb h1 h2 => by
       rw [HT2.out]; exact ⟨⟨rfl, hc0⟩, (hb.mono hBw).trans h1, (Kept.of_below hb).trans h2⟩)
      clear HT2 hc0 HNE
      go_enter Tryz.func45, Tryz.ntmps45
      go_wp2_with fail
      refine HC.out.mono ?_
      rintro e w1 ⟨rfl, hb1⟩
      have HB1 := Lib.hid hb1; clear hb1
      go_wp2_with fail
      refine (HW.out _).mono ?_
      rintro e w2 ⟨v, rfl, ho, hb2⟩
      have HB2 := Lib.hid (HB1.out.trans (hb2.mono HB1.out.size))
      have x2 := (HH.out.under HB2.out).cells.2.2.1
      have HPC := Lib.hid (HP.out _ v HB2.out (SRow.own ho))
      clear ho hb2
      go_wp2_with fail
      refine HPC.out.mono ?_
      rintro e w3 ⟨rfl, hb3, hk3⟩
      have HB3 := Lib.hid (And.intro hb3 hk3); clear hb3 hk3 x2
      go_wp2_with fail
      go_ret
      exact HE.out _ _ HB2.out HB3.out.1 HB3.out.2
     | ok nd =>
      have HE : Hid (∀ w1 w' vn' rows', Below w.heap.size w w1 → IsRdr w' B rb vn' (.slice sa ns sc) rows' ⟨r.par, r.nodes ++ [nd], r.said⟩ → Below B w1 w' → Kept w1 w' → TakePost B rb (.slice sa ns sc) r T w (.returned (.int .i64 0)) w') := Lib.hid (fun w1 w' vn' rows' hb hr h1 h2 => by
       rw [HT2.out]; exact ⟨⟨rfl, _, _, hr⟩, (hb.mono hBw).trans h1, (Kept.of_below hb).trans h2⟩)
      clear HT2 HNE
      go_enter Tryz.func45, Tryz.ntmps45
      go_wp2_with fail
      refine HC.out.mono ?_
      rintro e w1 ⟨rfl, hb1⟩
      have HB1 := Lib.hid hb1; clear hb1
      go_wp2_with fail
      refine (HW.out _).mono ?_
      rintro e w2 ⟨v, rfl, ho, hb2⟩
      have HB2 := Lib.hid (HB1.out.trans (hb2.mono HB1.out.size))
      have x2 := (HH.out.under HB2.out).cells.2.2.1
      have HPC := Lib.hid (HP.out _ v HB2.out (SRow.own ho))
      clear ho hb2
      go_wp2_with fail
      refine HPC.out.mono ?_
      rintro e w3 ⟨⟨rfl, vn', rows', hr3⟩, hb3, hk3⟩
      have HB3 := Lib.hid (And.intro hr3 (And.intro hb3 hk3)); clear hr3 hb3 hk3 x2
      go_wp2_with fail
      go_ret
      exact HE.out _ _ _ _ HB2.out HB3.out.1 HB3.out.2.1 HB3.out.2.2
 · have hne : (we != 0) = true := by simp [hwe]
   have HE : Hid (∀ w', Below w.heap.size w w' → TakePost B rb (.slice sa ns sc) r T w (.returned (.int .i64 we)) w') := Lib.hid (fun w' hb => by
    rw [HTK.out.trans (if_pos hwe)]; exact ⟨⟨rfl, hwe⟩, hb.mono hBw, Kept.of_below hb⟩)
   clear HTK hwe
   go_enter Tryz.func45, Tryz.ntmps45
   go_wp2_with fail
   refine HC.out.mono ?_
   rintro e w1 ⟨rfl, hb1⟩
   have HB1 := Lib.hid hb1; clear hb1
   go_wp2_with fail
   refine (HW.out _).mono ?_
   rintro e w2 ⟨v, rfl, ho, hb2⟩
   have HB2 := Lib.hid (HB1.out.trans (hb2.mono HB1.out.size))
   clear ho hb2
   go_wp2_with fail
   go_ret
   exact HE.out _ HB2.out
end
section
open Go.RowKit nam exp jb
theorem firstErr_at {f : Nat → Int} : ∀ {n k : Nat}, (firstErr f n k).2 ≠ 0 → ∃ j : Nat, k ≤ j ∧ j < k + n ∧ (firstErr f n k).1 = (j : Int)
 | 0, k, h => absurd rfl h
 | n + 1, k, h => by
  by_cases h0 : f k = 0
  · rw [firstErr_step h0] at h ⊢
    obtain ⟨j, h1, h2, h3⟩ := firstErr_at h
    exact ⟨j, by omega, by omega, h3⟩
  · rw [firstErr_stop h0]
    exact ⟨k, Nat.le_refl _, by omega, rfl⟩
theorem may_at {par : Int} {l : List Nd} (h0 : (mayO par l).2 ≠ 0) (h2 : (mayO par l).2 ≠ 2) : ∃ j : Nat, j < l.length ∧ (mayO par l).1 = (j : Int) := by
 unfold mayO at h0 h2 ⊢
 by_cases hb : boundedB par l = false
 · rw [if_pos hb] at h2; exact absurd rfl h2
 rw [if_neg hb] at h0 h2 ⊢
 by_cases ha : (aloneO l).2 ≠ 0
 · rw [if_pos ha]
   obtain ⟨j, _, h3, h4⟩ := firstErr_at ha
   exact ⟨j, by omega, h4⟩
 · rw [if_neg ha] at h0 ⊢
   obtain ⟨j, _, h3, h4⟩ := firstErr_at h0
   exact ⟨j, by omega, h4⟩
def FrameJ (w w' : World) : Prop := ∀ (b : Nat) (c : Array Value) (t : TypeId) (fr : Nat × Nat), w.heap[b]? = some (Obj.cells c t fr) → t ≠ 28 → w'.heap[b]? = some (Obj.cells c t fr)
theorem IsRdr.frameJ {w w' : World} {B rb : Nat} {vn vs : Value} {rows : List NRow} {r : Rdr} (h : IsRdr w B rb vn vs rows r) (hf : FrameJ w w') : IsRdr w' B rb vn vs rows r := by
 obtain ⟨h1, h2, h3, h4, h5, h6, h7, h8⟩ := h
 have hr : ∀ {e : TypeId} {size n : Nat} {v : Value} {xs : List Value}, e ≠ 28 → lg.Row w e size v n xs → lg.Row w' e size v n xs := fun he hr => hr.frame fun g hg => by
  obtain ⟨cur, hc⟩ := hr.kind hg
  rw [hc]; exact hf g _ _ _ hc he
 exact ⟨hf _ _ _ _ h1 (by decide), h2, hr (by decide) h3, h4, fun c hc => ⟨hr (by decide) (h5 c hc).1, (h5 c hc).2.1, (h5 c hc).2.2.frame fun b c _ hb => by rw [hb]; exact hf b _ _ _ hb (by decide)⟩, hr (by decide) h6, h7, h8⟩
def NodesJ (w : World) (v : Value) (l : List Nd) : Prop := ∀ w', FrameJ w w' → Nodes w' v l
theorem NodesJ.nodes {w : World} {v : Value} {l : List Nd} (h : NodesJ w v l) : Nodes w v l := h w fun _ _ _ _ h _ => h
def WholePost (o : Res) (w : World) (e : Ending) (w' : World) : Prop :=
 ∃ v, e = .returned (.tuple #[.agg #[.int .i64 o.1, v], .int .i64 o.2.2.1, .int .i64 o.2.2.2]) ∧ NodesJ w' v o.2.1 ∧ Below w.heap.size w w'
theorem nodes_nil (w : World) : NodesJ w (.slice none 0 0) [] := fun _ _ => ⟨none, 0, rfl, Nat.le_refl _, fun h => by simp at h⟩
theorem below_same {w w' w7 : World} {B : Nat} (h : Below B w w') (e1 : w7.heap = w'.heap) (e2 : w7.os = w'.os) (e3 : w7.tape = w'.tape) (e4 : w7.output = w'.output) : Below B w w7 :=
 ⟨e2.trans h.os, e3.trans h.tape, e4.trans h.output, by rw [e1]; exact h.size, fun k hk => by rw [e1]; exact h.block k hk⟩
theorem nodes_keep {w w' : World} {v : Value} {B rb : Nat} {vs : Value} {rows : List NRow} {r : Rdr} (h : IsRdr w B rb v vs rows r) (hb : Below w.heap.size w w') : NodesJ w' v r.nodes := fun w8 hf => ((h.under hb).frameJ hf).nodes
set_option maxHeartbeats 1600000 in
set_option maxRecDepth 1000000 in
theorem whole_any {w : World} {B rb : Nat} {vn vs : Value} {rows : List NRow} {r : Rdr} (ht : jb.Tab w) (h : IsRdr w B rb vn vs rows r) (hlen : r.said.length = r.nodes.length + 1 ∨ r.said = []) (hsl : r.said.length ≤ 100000) :
  Calls Tryz.prog 46 #[.pointer (some ⟨rb, 0, none⟩)] w (WholePost (wholeO r) w) := by
 have HH := Lib.hid h
 obtain ⟨N, hN⟩ : ∃ N, w.heap.size = N := ⟨_, rfl⟩
 obtain ⟨W, hW⟩ : ∃ W, w.alloc (.cells #[.int .i64 0, .slice none 0 0] 28) = W := ⟨_, rfl⟩
 have hwb : Below w.heap.size w W := by rw [← hW]; exact below_made _ _
 have hNB : W.heap[N]? = some (.cells #[.int .i64 0, .slice none 0 0] 28 (0, 0)) := by rw [← hW]; exact heap_last hN.symm
 obtain ⟨sa, sc, hsv⟩ := row_slice h.2.2.2.2.2.1
 obtain ⟨ns, hns⟩ : ∃ n, r.said.length = n := ⟨_, rfl⟩
 have HWO : Hid (wholeO r = if ns = 0 then (0, [], 0, 130) else if (mayO r.par r.nodes).2 = 0 then (r.par, r.nodes, 0, 0) else if (mayO r.par r.nodes).2 = 2 then (0, [], 0, 2)
  else (0, [], r.said.getD (1 + (mayO r.par r.nodes).1).toNat 0, (mayO r.par r.nodes).2)) := Lib.hid (by unfold wholeO; rw [hns])
 rw [hns] at hsv
 subst hsv
 obtain ⟨RES, hRES⟩ : ∃ o, wholeO r = o := ⟨_, rfl⟩
 rw [hRES] at HWO ⊢
 clear hRES
 have HNB := Lib.hid hNB; have HB := Lib.hid hwb; have HNN := Lib.hid hN; have HWW := Lib.hid hW
 have HNS := Lib.hid hns
 have hns' : ns ≤ 100000 := by omega
 obtain ⟨x0, x1, x2, -⟩ := (h.under hwb).cells
 by_cases h0 : ns = 0
 · have HR : Hid (RES = (0, [], 0, 130)) := Lib.hid (HWO.out.trans (if_pos h0))
   have HE : Hid (WholePost RES w (.returned (.tuple #[.agg #[.int .i64 0, .slice none 0 0], .int .i64 0, .int .i64 130])) W) := Lib.hid (by
    rw [HR.out]; exact ⟨_, rfl, nodes_nil _, HB.out⟩)
   have d0 : W.cell? ⟨N, 0, none⟩ = some (.int .i64 0) := cell_of HNB.out rfl
   have d1 : W.cell? ⟨N, 1, none⟩ = some (.slice none 0 0) := cell_of HNB.out rfl
   rw [← HWW.out] at x2 d0 d1
   rw [← HNN.out] at d0 d1
   have HD := Lib.hid (And.intro d0 d1)
   rw [← HWW.out] at HE
   subst h0
   clear ht h hlen hns hN hW hwb hNB x0 x1 d0 d1
   go_enter Tryz.func46, Tryz.ntmps46
   go_wp2_with fail
   obtain ⟨d0, d1⟩ := HD.out
   exact bodyPost_ret (v := .tuple #[.agg #[.int .i64 0, .slice none 0 0], .int .i64 0, .int .i64 130]) (by simp [results, Tryz.f46, go_sem, d0, d1]) rfl HE.out
 · have HR := Lib.hid (HWO.out.trans (if_neg h0))
   have hne : ((ns : Int) == 0) = false := by simp; omega
   have HM := Lib.hid (may_job r.par (ht.on hwb) ((h.under hwb).nodes))
   obtain ⟨va, vc, hvv⟩ := row_slice h.2.2.1
   obtain ⟨p, hp⟩ : ∃ p, (mayO r.par r.nodes).1 = p := ⟨_, rfl⟩
   obtain ⟨q, hq⟩ : ∃ q, (mayO r.par r.nodes).2 = q := ⟨_, rfl⟩
   have HAT : Hid (q ≠ 0 → q ≠ 2 → ∃ j : Nat, j < r.nodes.length ∧ p = (j : Int)) := Lib.hid (fun h1 h2 => by
    have := may_at (par := r.par) (l := r.nodes) (by rw [hq]; exact h1) (by rw [hq]; exact h2)
    rw [hp] at this; exact this)
   rw [hp, hq] at HR HM
   clear hp hq
   have HLN := Lib.hid hlen
   have HCELL : Hid (∀ w1, Below W.heap.size W w1 → w1.heap[N]? = some (.cells #[.int .i64 0, .slice none 0 0] 28 (0, 0))) := Lib.hid (fun w1 hb => (hb.block N (Array.getElem?_eq_some_iff.1 HNB.out).1).trans HNB.out)
   have HRD : Hid (∀ w1, Below W.heap.size W w1 → IsRdr w1 B rb vn (.slice sa ns sc) rows r) := Lib.hid (fun w1 hb => (HH.out.under HB.out).under hb)
   have HFIN : Hid (∀ w1, Below W.heap.size W w1 → ∀ (a b : Value) (w7 : World), w7.heap = ((w1.setCell ⟨N, 0, none⟩ a).setCell ⟨N, 1, none⟩ b).heap → w7.os = w1.os → w7.tape = w1.tape → w7.output = w1.output → Below w.heap.size w w7) := Lib.hid (fun w1 hb a b w7 e1 e2 e3 e4 =>
    below_same (((HB.out.trans (hb.mono HB.out.size)).setCell (p := ⟨N, 0, none⟩) (by show w.heap.size ≤ N; have := HNN.out; omega) a).setCell (p := ⟨N, 1, none⟩) (by show w.heap.size ≤ N; have := HNN.out; omega) b) e1 e2 e3 e4)
   subst hvv
   clear ht hlen hns hwb hNB
   by_cases hq0 : q = 0
   · have HR1 : Hid (RES = (r.par, r.nodes, 0, 0)) := Lib.hid (HR.out.trans (if_pos hq0))
     subst hq0
     clear HR HAT h0
     have HE : Hid (∀ w1, Below W.heap.size W w1 → ∀ (w7 : World), w7.heap = ((w1.setCell ⟨N, 0, none⟩ (.int .i64 r.par)).setCell ⟨N, 1, none⟩ (.slice va rows.length vc)).heap → w7.os = w1.os → w7.tape = w1.tape → w7.output = w1.output →
       WholePost RES w (.returned (.tuple #[.agg #[.int .i64 r.par, .slice va rows.length vc], .int .i64 0, .int .i64 0])) w7) := Lib.hid (fun w1 hb w7 e1 e2 e3 e4 => by
      have hb7 := HFIN.out w1 hb _ _ w7 e1 e2 e3 e4
      rw [HR1.out]
      have hnn := nodes_keep HH.out hb7
      exact ⟨.slice va rows.length vc, rfl, hnn, hb7⟩)
     clear HFIN
     clear hN h
     rw [← HWW.out] at x0 x1 x2 HM
     clear hW
     go_enter Tryz.func46, Tryz.ntmps46
     go_wp2_with fail
     refine HM.out.mono ?_
     rintro e w1 ⟨rfl, hb1⟩
     rw [HWW.out] at hb1
     have n0 : w1.cell? ⟨N, 0, none⟩ = some (.int .i64 0) := cell_of (HCELL.out w1 hb1) rfl
     have n1 : w1.cell? ⟨N, 1, none⟩ = some (.slice none 0 0) := cell_of (HCELL.out w1 hb1) rfl
     have f0 : w1.frozen? ⟨N, 0, none⟩ = false := by simp [World.frozen?, HCELL.out w1 hb1]
     have f1 : w1.frozen? ⟨N, 1, none⟩ = false := by simp [World.frozen?, HCELL.out w1 hb1]
     obtain ⟨y0, y1, y2, -⟩ := (HRD.out w1 hb1).cells
     have HE1 := Lib.hid (HE.out w1 hb1)
     clear hb1 x0 x1 x2
     rw [HNN.out]
     go_wp2_with fail
     exact bodyPost_ret (v := .tuple #[.agg #[.int .i64 r.par, .slice va rows.length vc], .int .i64 0, .int .i64 0]) (by simp [results, Tryz.f46, go_sem, n0, n1]) rfl (HE1.out _ rfl rfl rfl rfl)
   · have HR1 := Lib.hid (HR.out.trans (if_neg hq0))
     clear HR
     by_cases hq2 : q = 2
     · have HR2 : Hid (RES = (0, [], 0, 2)) := Lib.hid (HR1.out.trans (if_pos hq2))
       subst hq2
       clear HR1 HAT h0 hq0
       have HE : Hid (∀ w1, Below W.heap.size W w1 → ∀ (w7 : World), w7.heap = ((w1.setCell ⟨N, 0, none⟩ (.int .i64 0)).setCell ⟨N, 1, none⟩ (.slice none 0 0)).heap → w7.os = w1.os → w7.tape = w1.tape → w7.output = w1.output →
         WholePost RES w (.returned (.tuple #[.agg #[.int .i64 0, .slice none 0 0], .int .i64 0, .int .i64 2])) w7) := Lib.hid (fun w1 hb w7 e1 e2 e3 e4 => by
        rw [HR2.out]
        exact ⟨_, rfl, nodes_nil _, HFIN.out w1 hb _ _ w7 e1 e2 e3 e4⟩)
       clear HFIN hN h
       rw [← HWW.out] at x0 x1 x2 HM
       clear hW
       go_enter Tryz.func46, Tryz.ntmps46
       go_wp2_with fail
       refine HM.out.mono ?_
       rintro e w1 ⟨rfl, hb1⟩
       rw [HWW.out] at hb1
       have n0 : w1.cell? ⟨N, 0, none⟩ = some (.int .i64 0) := cell_of (HCELL.out w1 hb1) rfl
       have n1 : w1.cell? ⟨N, 1, none⟩ = some (.slice none 0 0) := cell_of (HCELL.out w1 hb1) rfl
       have f0 : w1.frozen? ⟨N, 0, none⟩ = false := by simp [World.frozen?, HCELL.out w1 hb1]
       have f1 : w1.frozen? ⟨N, 1, none⟩ = false := by simp [World.frozen?, HCELL.out w1 hb1]
       have HE1 := Lib.hid (HE.out w1 hb1)
       clear hb1 x0 x1 x2
       rw [HNN.out]
       go_wp2_with fail
       exact bodyPost_ret (v := .tuple #[.agg #[.int .i64 0, .slice none 0 0], .int .i64 0, .int .i64 2]) (by simp [results, Tryz.f46, go_sem, n0, n1]) rfl (HE1.out _ rfl rfl rfl rfl)
     · have HR2 := Lib.hid (HR1.out.trans (if_neg hq2))
       obtain ⟨j, hj, rfl⟩ := HAT.out hq0 hq2
       have hjs : 1 + j < ns := by
        rcases HLN.out with h1 | h1
        · have := HNS.out; omega
        · have := HNS.out; rw [h1] at this; simp at this; omega
       obtain ⟨z, hz⟩ : ∃ z, r.said.getD (1 + j) 0 = z := ⟨_, rfl⟩
       have HR3 : Hid (RES = (0, [], z, q)) := Lib.hid (by rw [HR2.out, show ((1 : Int) + (j : Int)).toNat = 1 + j by omega, hz])
       have hq0' : (q == 0) = false := by simpa using hq0
       have hq2' : (q == 2) = false := by simpa using hq2
       have hj1 : (0 : Int) ≤ (j : Int) := by omega
       have hj2 : (1 : Int) + (j : Int) < (ns : Int) := by omega
       obtain ⟨sg, hsg⟩ : ∃ g, sa = some ⟨g, 0, none⟩ := by
        rcases h.2.2.2.2.2.1.form with ⟨e1, e2⟩ | ⟨g, cap, e1, _⟩
        · have := HNS.out; omega
        · simp only [Value.slice.injEq] at e1; exact ⟨g, e1.1⟩
       subst hsg
       have HSC : Hid (∀ w1, Below W.heap.size W w1 → w1.cell? ⟨sg, 1 + j, none⟩ = some (.int .i64 z)) := Lib.hid (fun w1 hb => by
        have h1 := (HRD.out w1 hb).2.2.2.2.2.1
        have h2 : lg.Row w1 3 1 (.slice (some ⟨sg, 0, none⟩) r.said.length sc) r.said.length (r.said.map intV) := by rw [HNS.out] at h1 ⊢; exact h1
        refine h2.cellAt ?_
        rw [List.getElem?_map, List.getElem?_eq_getElem (by rw [HNS.out]; exact hjs)]
        rw [List.getD_eq_getElem?_getD, List.getElem?_eq_getElem (by rw [HNS.out]; exact hjs)] at hz
        show some (intV _) = _
        rw [show r.said[1 + j]'(by rw [HNS.out]; exact hjs) = z from hz]; rfl)
       have HE : Hid (∀ w1, Below W.heap.size W w1 → ∀ (w7 : World), w7.heap = ((w1.setCell ⟨N, 0, none⟩ (.int .i64 0)).setCell ⟨N, 1, none⟩ (.slice none 0 0)).heap → w7.os = w1.os → w7.tape = w1.tape → w7.output = w1.output →
         WholePost RES w (.returned (.tuple #[.agg #[.int .i64 0, .slice none 0 0], .int .i64 z, .int .i64 q])) w7) := Lib.hid (fun w1 hb w7 e1 e2 e3 e4 => by
        rw [HR3.out]
        exact ⟨_, rfl, nodes_nil _, HFIN.out w1 hb _ _ w7 e1 e2 e3 e4⟩)
       have hsgN : sg ≠ N := by have := h.2.2.2.2.2.1.lt (g := sg) rfl; omega
       have hNsg : N ≠ sg := fun e => hsgN e.symm
       have hrbN : rb ≠ N := by have := h.rlt; omega
       have hNrb : N ≠ rb := fun e => hrbN e.symm
       clear HFIN hN h HR1 HAT h0 hq0 hq2 hz HR2 hj hjs HLN
       rw [← HWW.out] at x0 x1 x2 HM
       clear hW
       go_enter Tryz.func46, Tryz.ntmps46
       go_wp2_with fail
       refine HM.out.mono ?_
       rintro e w1 ⟨rfl, hb1⟩
       rw [HWW.out] at hb1
       have n0 : w1.cell? ⟨N, 0, none⟩ = some (.int .i64 0) := cell_of (HCELL.out w1 hb1) rfl
       have n1 : w1.cell? ⟨N, 1, none⟩ = some (.slice none 0 0) := cell_of (HCELL.out w1 hb1) rfl
       have f0 : w1.frozen? ⟨N, 0, none⟩ = false := by simp [World.frozen?, HCELL.out w1 hb1]
       have f1 : w1.frozen? ⟨N, 1, none⟩ = false := by simp [World.frozen?, HCELL.out w1 hb1]
       obtain ⟨y0, y1, y2, -⟩ := (HRD.out w1 hb1).cells
       have y3 := HSC.out w1 hb1
       have HE1 := Lib.hid (HE.out w1 hb1)
       clear hb1 x0 x1 x2
       rw [HNN.out]
       go_wp2_with fail
       go_region
       all_goals (go_wp2_with fail; exact bodyPost_ret (v := .tuple #[.agg #[.int .i64 0, .slice none 0 0], .int .i64 z, .int .i64 q]) (by simp [results, Tryz.f46, go_sem, n0, n1]) rfl (HE1.out _ rfl rfl rfl rfl))
end
section
open Go.RowKit nam exp jb
theorem splitL_len : ∀ (l cur : List UInt8), (splitL cur l).length ≤ l.length + 1
 | [], cur => by simp [splitL]
 | c :: l, cur => by
  rw [splitL]
  split
  · have := splitL_len l []
    simp only [List.length_cons]; omega
  · have := splitL_len l (cur ++ [c])
    simp only [List.length_cons]; omega
theorem splitL_size : ∀ (l cur : List UInt8), ∀ x ∈ splitL cur l, x.length ≤ cur.length + l.length
 | [], cur, x, h => by
  simp only [splitL, List.mem_singleton] at h
  rw [h]; omega
 | c :: l, cur, x, h => by
  rw [splitL] at h
  simp only [List.length_cons]
  split at h
  · rcases List.mem_cons.1 h with h | h
    · rw [h]; omega
    · have := splitL_size l [] x h
      simp only [List.length_nil] at this; omega
  · have := splitL_size l (cur ++ [c]) x h
    rw [List.length_append, List.length_singleton] at this; omega
theorem lines_len (s : ByteArray) : (linesO s).length ≤ s.size + 1 ∧ ∀ l ∈ linesO s, l.size ≤ s.size := by
 have hl : s.data.toList.length = s.size := by rw [Array.length_toList]; rfl
 rw [lines_split]
 refine ⟨by rw [List.length_map]; have := splitL_len s.data.toList []; omega, fun l h => ?_⟩
 obtain ⟨x, hx, rfl⟩ := List.mem_map.1 h
 have := splitL_size s.data.toList [] x hx
 have e : (ba x).size = x.length := by show x.toArray.size = _; simp
 rw [e]; simp only [List.length_nil] at this; omega
def Kept2 (w w' : World) : Prop := w.heap.size ≤ w'.heap.size ∧ ∀ (b : Nat) (c : Array Value) (t : TypeId) (fr : Nat × Nat), w.heap[b]? = some (Obj.cells c t fr) → t ≠ 105 → t ≠ 48 → t ≠ 3 → w'.heap[b]? = some (Obj.cells c t fr)
theorem Kept.two {w w' : World} (h : Kept w w') : Kept2 w w' := ⟨h.1, fun b c t fr hb h1 h2 _ => h.2 b c t fr hb h1 h2⟩
theorem Kept2.trans {w w1 w2 : World} (h : Kept2 w w1) (h2 : Kept2 w1 w2) : Kept2 w w2 := ⟨Nat.le_trans h.1 h2.1, fun b c t fr hb h3 h4 h5 => h2.2 b c t fr (h.2 b c t fr hb h3 h4 h5) h3 h4 h5⟩
theorem Kept2.own {w w' : World} (h : Kept2 w w') {B : Nat} {e : TypeId} {size n : Nat} {v : Value} {xs : List Value} (hr : w.ownsRow B e size v n xs) (h1 : e ≠ 105) (h2 : e ≠ 48) (h3 : e ≠ 3) : w'.ownsRow B e size v n xs := by
 obtain ⟨k1, k2 | ⟨g, cap, cur, a0, a1, a2, a3⟩⟩ := hr
 · exact ⟨k1, .inl k2⟩
 · exact ⟨k1, .inr ⟨g, cap, cur, a0, a1, h.2 g _ _ _ a2 h1 h2 h3, a3⟩⟩
theorem IsRdr.say {w w5 : World} {B rb : Nat} {vn vs : Value} {rows : List NRow} {r : Rdr} {o : Obj} {g cap : Nat} {x : Int} (h : IsRdr w B rb vn vs rows r) (hg : (w.alloc o).grownBy w5 vs.ownBlock)
  (hown : lg.Row w5 3 1 (.slice (some ⟨g, 0, none⟩) (r.said.length + 1) cap) (r.said.length + 1) (r.said.map intV ++ [.int .i64 x])) (hat : vs.ownBlock = some g ∨ g = (w.alloc o).heap.size) :
  IsRdr (w5.setCell ⟨rb, 2, none⟩ (.slice (some ⟨g, 0, none⟩) (r.said.length + 1) cap)) B rb vn (.slice (some ⟨g, 0, none⟩) (r.said.length + 1) cap) rows ⟨r.par, r.nodes, r.said ++ [x]⟩ ∧
   Below B w (w5.setCell ⟨rb, 2, none⟩ (.slice (some ⟨g, 0, none⟩) (r.said.length + 1) cap)) ∧ Kept2 w (w5.setCell ⟨rb, 2, none⟩ (.slice (some ⟨g, 0, none⟩) (r.said.length + 1) cap)) := by
 obtain ⟨h1, h2, h3, h4, h5, h6, h7, h8⟩ := h
 have hrb := (Array.getElem?_eq_some_iff.1 h1).1
 -- whatever is not the row itself stands
 have st5 : ∀ (b : Nat) (c : Array Value) (t : TypeId) (fr : Nat × Nat), w.heap[b]? = some (Obj.cells c t fr) → vs.ownBlock ≠ some b → w5.heap[b]? = some (Obj.cells c t fr) := fun b c t fr hb hne => by
  have hlt := (Array.getElem?_eq_some_iff.1 hb).1
  rw [hg.block b (by rw [World.size_alloc]; omega) (fun e => hne e.symm), Below.heap_alloc _ _ _ hlt]
  exact hb
 have hrb5 : w5.heap[rb]? = some (.cells #[.int .i64 r.par, vn, vs] 105 (0, 0)) := st5 rb _ _ _ h1 (row_ty h6 h1 (by decide))
 have st6 : ∀ (b : Nat) (c : Array Value) (t : TypeId) (fr : Nat × Nat), w.heap[b]? = some (Obj.cells c t fr) → vs.ownBlock ≠ some b → b ≠ rb → (w5.setCell ⟨rb, 2, none⟩ (.slice (some ⟨g, 0, none⟩) (r.said.length + 1) cap)).heap[b]? = some (Obj.cells c t fr) := fun b c t fr hb hne hnr => by
  rw [Below.heap_setCell _ _ _ _ hnr]; exact st5 b c t fr hb hne
 have ne_rb : ∀ {b : Nat} {c : Array Value} {t : TypeId} {fr : Nat × Nat}, w.heap[b]? = some (Obj.cells c t fr) → t ≠ 105 → b ≠ rb := fun hb ht e => by
  subst e
  rw [h1] at hb
  simp only [Option.some.injEq, Obj.cells.injEq] at hb
  exact ht hb.2.1.symm
 have hgb : B ≤ g := by
  rcases hat with h | h
  · exact h7 g h
  · rw [h, World.size_alloc]; omega
 have hgne : g ≠ rb := by
  intro e
  subst e
  exact row_ty hown hrb5 (by decide) rfl
 have hB5 : Below B w w5 := by
  have hb : Below B w (w.alloc o) := ((Below.refl w.heap.size w).alloc (Nat.le_refl _) o).mono (by omega)
  exact hb.grown hg (by rw [World.size_alloc]; omega) (fun j hj => h7 j hj)
 have hsz : w.heap.size ≤ (w5.setCell ⟨rb, 2, none⟩ (.slice (some ⟨g, 0, none⟩) (r.said.length + 1) cap)).heap.size := by
  have := hg.size
  rw [World.size_alloc] at this
  simp only [World.size_setCell]
  omega
 refine ⟨⟨setCell_heap hrb5, h2, ?_, h4, fun c hc => ⟨?_, fun g' hg' e => ?_, ?_⟩, ?_, fun g' hg' => ?_, h8⟩, hB5.setCell (p := ⟨rb, 2, none⟩) h2 _, hsz, fun b c t fr hb k1 k2 k3 => st6 b c t fr hb (row_ty h6 hb k3) (ne_rb hb k1)⟩
 · exact h3.frame fun g' hg' => by
    obtain ⟨cur, hc⟩ := h3.kind hg'
    rw [hc]; exact st6 g' _ _ _ hc (row_ty h6 hc (by decide)) (ne_rb hc (by decide))
 · have hk := (h5 c hc).1
   exact hk.frame fun g' hg' => by
    obtain ⟨cur, hc'⟩ := hk.kind hg'
    rw [hc']; exact st6 g' _ _ _ hc' ((h5 c hc).2.1 g' hg') (ne_rb hc' (by decide))
 · simp only [Value.ownBlock, Option.some.injEq] at e
   subst e
   rcases hat with h | h
   · exact (h5 c hc).2.1 _ hg' h
   · have := (h5 c hc).1.lt hg'
     rw [h, World.size_alloc] at this; omega
 · exact (h5 c hc).2.2.frame fun b cc _ hb => by
    rw [hb]; exact st6 b _ _ _ hb (row_ty h6 hb (by decide)) (ne_rb hb (by decide))
 · rw [List.length_append, List.map_append]
   exact hown.frame fun g' hg' => by
    simp only [Value.ownBlock, Option.some.injEq] at hg'
    subst hg'
    exact Below.heap_setCell _ _ _ _ hgne
 · simp only [Value.ownBlock, Option.some.injEq] at hg'
   omega
end
section
open Go.RowKit nam exp jb
theorem lines_pos (s : ByteArray) : 0 < (linesO s).length := by
 rw [lines_split, List.length_map]
 have : ∀ (l cur : List UInt8), 0 < (splitL cur l).length := by
  intro l
  induction l with
  | nil => intro cur; simp [splitL]
  | cons c l ih =>
   intro cur
   rw [splitL]
   split
   · simp
   · exact ih _
 exact this _ _
theorem goO_step {L : List ByteArray} {k : Nat} (h : k < L.length) (r : Rdr) : goO (L.drop k) k r = if silentB L[k] then goO (L.drop (k + 1)) (k + 1) r else match takeO r L[k] with
  | .error e => (0, [], ((k + 1 : Nat) : Int), e)
  | .ok (p, ns) => goO (L.drop (k + 1)) (k + 1) ⟨p, ns, r.said ++ [((k + 1 : Nat) : Int)]⟩ := by
 rw [List.drop_eq_getElem_cons h, goO]
 rfl
theorem take_nodes {r : Rdr} {l : ByteArray} {q : Int × List Nd} (h : takeO r l = .ok q) : (r.said.length = 0 ∧ q.2 = r.nodes) ∨ (r.said.length ≠ 0 ∧ q.2.length = r.nodes.length + 1) := by
 unfold takeO at h
 split at h
 · cases h
 split at h
 · rename_i h0
   split at h
   · cases h
   · split at h
     · cases h
     · cases h; exact .inl ⟨h0, rfl⟩
 · rename_i h0
   split at h
   · cases h
   · cases h; exact .inr ⟨h0, by simp⟩
theorem frameJ_set {w : World} {N j : Nat} {z : Value} {c : Array Value} {fr : Nat × Nat} (h : w.heap[N]? = some (.cells c 28 fr)) : FrameJ w (w.setCell ⟨N, j, none⟩ z) := by
 intro b c' t' fr' hb ht
 have hne : b ≠ N := by
  intro e
  subst e
  rw [h] at hb
  simp only [Option.some.injEq, Obj.cells.injEq] at hb
  exact ht hb.2.1.symm
 rw [Below.heap_setCell _ _ _ _ hne]
 exact hb
def Inv (s : ByteArray) (w : World) (N rb : Nat) (vn vs vl : Value) (rows : List NRow) (r : Rdr) (k : Nat) (wr : World) : Prop :=
 IsRdr wr w.heap.size rb vn vs rows r ∧ goO ((linesO s).drop k) k r = goO (linesO s) 0 ⟨0, [], []⟩ ∧ r.nodes.length ≤ k ∧ r.said.length ≤ k ∧ (r.said.length = r.nodes.length + 1 ∨ (r.said = [] ∧ r.nodes = [])) ∧
  wr.ownsRow w.heap.size 9 1 vl (linesO s).length ((linesO s).map Value.string) ∧ wr.heap[N]? = some (.cells #[.int .i64 0, .slice none 0 0] 28 (0, 0)) ∧ Below w.heap.size w wr
theorem Inv.skip {s : ByteArray} {w wr w1 : World} {N rb k : Nat} {vn vs vl : Value} {rows : List NRow} {r : Rdr} (h : Inv s w N rb vn vs vl rows r k wr) (hb : Below wr.heap.size wr w1) (hk : k < (linesO s).length) (hs : silentB (linesO s)[k] = true) : Inv s w N rb vn vs vl rows r (k + 1) w1 := by
 obtain ⟨h1, h2, h3, h4, h5, h6, h7, h8⟩ := h
 refine ⟨h1.under hb, ?_, by omega, by omega, h5, own_below' h6 hb, (hb.block N (Array.getElem?_eq_some_iff.1 h7).1).trans h7, h8.trans (hb.mono h8.size)⟩
 rw [← h2, goO_step hk, if_pos hs]
theorem Inv.told {s : ByteArray} {w wr w1 w2 w5 : World} {N rb k g cap : Nat} {vn vs vl vn' : Value} {rows rows' : List NRow} {r : Rdr} {q : Int × List Nd} {o : Obj} (h : Inv s w N rb vn vs vl rows r k wr) (hb : Below wr.heap.size wr w1) (hk : k < (linesO s).length) (hs : silentB (linesO s)[k] = false)
  (ht : takeO r (linesO s)[k] = .ok q) (hr : IsRdr w2 w.heap.size rb vn' vs rows' ⟨q.1, q.2, r.said⟩) (hb2 : Below w.heap.size w1 w2) (hk2 : Kept w1 w2) (hg : (w2.alloc o).grownBy w5 vs.ownBlock)
  (hown : lg.Row w5 3 1 (.slice (some ⟨g, 0, none⟩) (r.said.length + 1) cap) (r.said.length + 1) (r.said.map intV ++ [.int .i64 ((k : Int) + 1)])) (hat : vs.ownBlock = some g ∨ g = (w2.alloc o).heap.size) :
  Inv s w N rb vn' (.slice (some ⟨g, 0, none⟩) (r.said.length + 1) cap) vl rows' ⟨q.1, q.2, r.said ++ [((k + 1 : Nat) : Int)]⟩ (k + 1) (w5.setCell ⟨rb, 2, none⟩ (.slice (some ⟨g, 0, none⟩) (r.said.length + 1) cap)) := by
 obtain ⟨h1, h2, h3, h4, h5, h6, h7, h8⟩ := h
 have e1 : ((k : Int) + 1) = ((k + 1 : Nat) : Int) := by omega
 rw [e1] at hown
 obtain ⟨a1, a2, a3⟩ := hr.say hg hown hat
 have hkk : Kept2 w1 _ := hk2.two.trans a3
 have hk0 : Kept2 wr _ := (Kept.of_below hb).two.trans hkk
 refine ⟨a1, ?_, ?_, by rw [List.length_append, List.length_singleton]; omega, ?_, hk0.own h6 (by decide) (by decide) (by decide), hk0.2 _ _ _ _ h7 (by decide) (by decide) (by decide), (h8.trans (hb.mono h8.size)).trans (hb2.trans a2)⟩
 · rw [← h2, goO_step hk, hs, ht]; rfl
 · show q.2.length ≤ k + 1
   rcases take_nodes ht with ⟨_, h⟩ | ⟨_, h⟩
   · rw [h]; omega
   · rw [h]; omega
 · show (r.said ++ [((k + 1 : Nat) : Int)]).length = q.2.length + 1 ∨ _
   rw [List.length_append, List.length_singleton]
   rcases take_nodes ht with ⟨h0, h⟩ | ⟨h0, h⟩
   · rw [h]
     rcases h5 with h5 | ⟨h5, h6⟩
     · omega
     · rw [h6, h0]; exact .inl rfl
   · rcases h5 with h5 | ⟨h5, h6⟩
     · left; omega
     · rw [h5] at h0; exact absurd rfl h0
set_option maxHeartbeats 3200000 in
set_option maxRecDepth 1000000 in
theorem parse_any (s : ByteArray) {w : World} (hk : KTab w) (ht : jb.Tab w) : Calls Tryz.prog 18 #[.string s] w (WholePost (parseJ s) w) := by
 obtain ⟨i0, hi, hz0, hz1, hz2⟩ := info_parts info3
 by_cases hlong : 65536 < s.size
 · have hl' : (65536 : Int) < (s.size : Int) := by omega
   have HE : Hid (WholePost (parseJ s) w (.returned (.tuple #[.agg #[.int .i64 0, .slice none 0 0], .int .i64 0, .int .i64 3])) (w.alloc (.cells #[.int .i64 0, .slice none 0 0] 28))) := Lib.hid (by
    unfold parseJ
    rw [if_pos hlong]; exact ⟨_, rfl, nodes_nil _, below_made _ _⟩)
   have HD := Lib.hid (@box2 w _ (.int .i64 0) (.slice none 0 0) 28 rfl)
   clear hlong hk ht
   go_enter Tryz.func18, Tryz.ntmps18
   go_wp2_with fail
   obtain ⟨d0, d1⟩ := HD.out
   exact bodyPost_ret (v := .tuple #[.agg #[.int .i64 0, .slice none 0 0], .int .i64 0, .int .i64 3]) (by simp [results, Tryz.f18, go_sem, d0, d1]) rfl HE.out
 · have hl' : ¬ (65536 : Int) < (s.size : Int) := by omega
   obtain ⟨RES, hRES⟩ : ∃ o, parseJ s = o := ⟨_, rfl⟩
   have HRES : Hid (goO (linesO s) 0 ⟨0, [], []⟩ = RES) := Lib.hid (by rw [← hRES]; unfold parseJ; rw [if_neg hlong])
   rw [hRES]
   clear hRES
   have HLL := Lib.hid (lines_len s)
   have HLP := Lib.hid (lines_pos s)
   obtain ⟨N, hN⟩ : ∃ N, w.heap.size = N := ⟨_, rfl⟩
   obtain ⟨rb, hrb⟩ : ∃ rb, N + 1 = rb := ⟨_, rfl⟩
   obtain ⟨W, hW⟩ : ∃ W, (w.alloc (.cells #[.int .i64 0, .slice none 0 0] 28)).alloc (.cells #[.int .i64 0, .slice none 0 0, .slice none 0 0] 105) = W := ⟨_, rfl⟩
   have HB : Hid (Below w.heap.size w W) := Lib.hid (by rw [← hW]; exact (below_made w _).alloc (by simp) _)
   have hN1 : W.heap[N]? = some (.cells #[.int .i64 0, .slice none 0 0] 28 (0, 0)) := by rw [← hW]; exact heap_old (heap_last hN.symm)
   have hN2 : W.heap[rb]? = some (.cells #[.int .i64 0, .slice none 0 0, .slice none 0 0] 105 (0, 0)) := by rw [← hW]; exact heap_last (by simp; omega)
   have HR0 : Hid (∀ w1, Below W.heap.size W w1 → IsRdr w1 w.heap.size rb (.slice none 0 0) (.slice none 0 0) [] ⟨0, [], []⟩) := Lib.hid (fun w1 hb =>
    ⟨(hb.block rb (Array.getElem?_eq_some_iff.1 hN2).1).trans hN2, by omega, lg.Row.nil _ _ _, rfl, (fun c h => absurd h (by simp)), lg.Row.nil _ _ _, (fun g h => by simp [Value.ownBlock] at h), (fun g h => by simp [Value.ownBlock] at h)⟩)
   have HN1 := Lib.hid hN1
   have HLA := Lib.hid (lines_any s (by omega) W)
   unfold LinesPost at HLA
   have HWW := Lib.hid hW; have HNN := Lib.hid hN; have HRB := Lib.hid hrb
   have HK := Lib.hid hk; have HT := Lib.hid ht
   have HSZ : Hid (s.size ≤ 65536) := Lib.hid (by omega)
   rw [← HWW.out] at HLA
   clear hN1 hN2 hW hrb hlong hk ht hN
   go_enter Tryz.func18, Tryz.ntmps18
   go_wp2_with fail
   refine HLA.out.mono ?_
   rintro e w1 ⟨vl, rfl, ho, hb1⟩
   rw [HWW.out] at hb1 ho
   obtain ⟨n, hn⟩ : ∃ n, (linesO s).length = n := ⟨_, rfl⟩
   have HNL := Lib.hid hn
   have ho2 : w1.ownsRow w.heap.size 9 1 vl (linesO s).length ((linesO s).map Value.string) := by
    obtain ⟨k1, k2 | ⟨g, cap, cur, a0, a1, a2⟩⟩ := ho
    · exact ⟨k1, .inl k2⟩
    · exact ⟨k1, .inr ⟨g, cap, cur, a0, by have := HB.out.size; omega, a2⟩⟩
   obtain ⟨gl, cl, rfl, hcl⟩ : ∃ gl cl, vl = .slice (some ⟨gl, 0, none⟩) (linesO s).length cl ∧ (linesO s).length ≤ cl := by
    rcases own_cases ho with ⟨e1, e2⟩ | ⟨g, cap, e1, e2, _⟩
    · have := HLP.out; omega
    · exact ⟨g, cap, e1, e2⟩
   have HST : Hid (Inv s w N rb (.slice none 0 0) (.slice none 0 0) (.slice (some ⟨gl, 0, none⟩) (linesO s).length cl) [] ⟨0, [], []⟩ 0 w1) := Lib.hid
    ⟨HR0.out w1 hb1, rfl, by simp, by simp, .inr ⟨rfl, rfl⟩, ho2, (hb1.block N (Array.getElem?_eq_some_iff.1 HN1.out).1).trans HN1.out, HB.out.trans (hb1.mono HB.out.size)⟩
   rw [hn] at HST hcl ⊢
   have hn65 : n ≤ 65537 := by have := HLL.out.1; have := HSZ.out; omega
   clear ho hb1 ho2 hn HR0 HN1 HLA
   rw [HNN.out, HRB.out]
   go_wp2_with fail
   go_loopg [18] n (fun g v18 wr => ∃ (k : Nat) (vn vs : Value) (rows : List NRow) (r : Rdr), k + g = n ∧ v18 = .int .i64 (k : Int) ∧ Inv s w N rb vn vs (.slice (some ⟨gl, 0, none⟩) n cl) rows r k wr)
   case atStart => exact ⟨0, _, _, _, _, by omega, rfl, HST.out⟩
   case round =>
    obtain ⟨k, vn, vs, rows, r, hkg, rfl, hI⟩ := hrel
    have HI := Lib.hid hI; clear hI HST
    by_cases hkn : k < n
    · have hki : (k : Int) < (n : Int) := by omega
      have hkl : k < (linesO s).length := by rw [HNL.out]; exact hkn
      obtain ⟨l, hll⟩ : ∃ l, (linesO s)[k] = l := ⟨_, rfl⟩
      have hcell : wr.cell? ⟨gl, k, none⟩ = some (.string l) := by
       have h1 := HI.out.2.2.2.2.2.1
       rw [← HNL.out] at h1
       exact own_cellAt' h1 (by rw [List.getElem?_map, List.getElem?_eq_getElem hkl, hll]; rfl)
      have hls : l.size ≤ 1000000 := by
       have h1 := HLL.out.2 l (by rw [← hll]; exact List.getElem_mem hkl)
       have := HSZ.out
       omega
      have HS := Lib.hid (silent_any l hls wr)
      have HSK : Hid (∀ w1, Below wr.heap.size wr w1 → silentB l = true → Inv s w N rb vn vs (.slice (some ⟨gl, 0, none⟩) n cl) rows r (k + 1) w1) := Lib.hid (fun w1 hb hs => HI.out.skip hb hkl (by rw [hll]; exact hs))
      have HKL := Lib.hid hkl
      have HLL2 : Hid ((linesO s)[k]'HKL.out = l) := Lib.hid hll
      clear hll hkl
      cases hsl : silentB l with
      | true =>
       rw [hsl] at HS
       have HSL := Lib.hid hsl
       clear hsl hls hkn
       go_wp2_with fail
       refine HS.out.mono ?_
       rintro e w2 ⟨rfl, hb2⟩
       have HN2 := Lib.hid (HSK.out w2 hb2 HSL.out)
       clear hb2
       go_wp2_with fail
       go_roundg (gk - 1)
       case rel => exact ⟨k + 1, _, _, _, _, by omega, by go_num, HN2.out⟩
       case measure => omega
      | false =>
       rw [hsl] at HS
       have HSL := Lib.hid hsl
       have HTK : Hid (∀ w1, Below wr.heap.size wr w1 → Calls Tryz.prog 45 #[.pointer (some ⟨rb, 0, none⟩), .string l] w1 (TakePost w.heap.size rb vs r (takeO r l) w1)) := Lib.hid (fun w1 hb =>
        take_any l hls (HK.out.on (HI.out.2.2.2.2.2.2.2.trans (hb.mono HI.out.2.2.2.2.2.2.2.size))) (HI.out.1.under hb) (by have := HI.out.2.2.1; omega) (by have := HI.out.2.2.2.1; omega))
       obtain ⟨T, hT⟩ : ∃ T, takeO r l = T := ⟨_, rfl⟩
       rw [hT] at HTK
       have HTT := Lib.hid hT
       unfold TakePost at HTK
       clear hsl hls hT hkn
       cases T with
       | error c =>
        have HE : Hid (RES = (0, [], ((k + 1 : Nat) : Int), c)) := Lib.hid (by
         rw [← HRES.out, ← HI.out.2.1, goO_step HKL.out, HLL2.out, HSL.out, HTT.out]; rfl)
        have HP : Hid (∀ w1 w2 w7, Below wr.heap.size wr w1 → Below w.heap.size w1 w2 → w7.heap = ((w2.setCell ⟨N, 0, none⟩ (.int .i64 0)).setCell ⟨N, 1, none⟩ (.slice none 0 0)).heap → w7.os = w2.os → w7.tape = w2.tape → w7.output = w2.output →
          WholePost RES w (.returned (.tuple #[.agg #[.int .i64 0, .slice none 0 0], .int .i64 ((k : Int) + 1), .int .i64 c])) w7) := Lib.hid (fun w1 w2 w7 hb hb2 e1 e2 e3 e4 => by
         have h8 := HI.out.2.2.2.2.2.2.2
         have hbb : Below w.heap.size w w2 := (h8.trans (hb.mono h8.size)).trans hb2
         have hb7 : Below w.heap.size w w7 := below_same ((hbb.setCell (p := ⟨N, 0, none⟩) (by show w.heap.size ≤ N; have := HNN.out; omega) _).setCell (p := ⟨N, 1, none⟩) (by show w.heap.size ≤ N; have := HNN.out; omega) _) e1 e2 e3 e4
         rw [HE.out]
         exact ⟨.slice none 0 0, by simp, nodes_nil _, hb7⟩)
        clear HE
        go_wp2_with fail
        refine HS.out.mono ?_
        rintro e w2 ⟨rfl, hb2⟩
        have HB2 := Lib.hid hb2
        have HT2 := Lib.hid (HTK.out w2 hb2)
        clear hb2
        go_wp2_with fail
        refine HT2.out.mono ?_
        rintro e w3 ⟨⟨rfl, hc0⟩, hb3, hk3⟩
        have hne : (c != 0) = true := by simp [hc0]
        have hJ := hk3.2 _ _ _ _ ((HB2.out.block N (Array.getElem?_eq_some_iff.1 HI.out.2.2.2.2.2.2.1).1).trans HI.out.2.2.2.2.2.2.1) (by decide) (by decide)
        have n0 : w3.cell? ⟨N, 0, none⟩ = some (.int .i64 0) := cell_of hJ rfl
        have n1 : w3.cell? ⟨N, 1, none⟩ = some (.slice none 0 0) := cell_of hJ rfl
        have f0 : w3.frozen? ⟨N, 0, none⟩ = false := by simp [World.frozen?, hJ]
        have f1 : w3.frozen? ⟨N, 1, none⟩ = false := by simp [World.frozen?, hJ]
        have HB3 := Lib.hid hb3
        clear hb3 hk3 hJ hc0 hcell
        go_wp2_with fail
        try simp only [Exit.noGoto_ret, inBlock_ret, then_ret]
        exact bodyPost_ret (v := .tuple #[.agg #[.int .i64 0, .slice none 0 0], .int .i64 ((k : Int) + 1), .int .i64 c]) (by simp [results, Tryz.f18, go_sem, n0, n1]) rfl (HP.out _ _ _ HB2.out HB3.out rfl rfl rfl rfl)
       | ok q =>
        have hsn : r.said.length ≤ 100000 := by have := HI.out.2.2.2.1; omega
        have HNX : Hid (∀ w1 w2 w5 (o : Obj) (g cap : Nat) (vn' : Value) (rows' : List NRow), Below wr.heap.size wr w1 → IsRdr w2 w.heap.size rb vn' vs rows' ⟨q.1, q.2, r.said⟩ → Below w.heap.size w1 w2 → Kept w1 w2 → (w2.alloc o).grownBy w5 vs.ownBlock →
          lg.Row w5 3 1 (.slice (some ⟨g, 0, none⟩) (r.said.length + 1) cap) (r.said.length + 1) (r.said.map intV ++ [.int .i64 ((k : Int) + 1)]) → (vs.ownBlock = some g ∨ g = (w2.alloc o).heap.size) →
          Inv s w N rb vn' (.slice (some ⟨g, 0, none⟩) (r.said.length + 1) cap) (.slice (some ⟨gl, 0, none⟩) n cl) rows' ⟨q.1, q.2, r.said ++ [((k + 1 : Nat) : Int)]⟩ (k + 1) (w5.setCell ⟨rb, 2, none⟩ (.slice (some ⟨g, 0, none⟩) (r.said.length + 1) cap))) := Lib.hid (fun w1 w2 w5 o g cap vn' rows' hb hr hb2 hk2 hg hown hat =>
         HI.out.told hb HKL.out (by rw [HLL2.out]; exact HSL.out) (by rw [HLL2.out]; exact HTT.out) hr hb2 hk2 hg hown hat)
        go_wp2_with fail
        refine HS.out.mono ?_
        rintro e w2 ⟨rfl, hb2⟩
        have HB2 := Lib.hid hb2
        have HT2 := Lib.hid (HTK.out w2 hb2)
        clear hb2 hcell
        go_wp2_with fail
        refine HT2.out.mono ?_
        rintro e w3 ⟨⟨rfl, vn', rows', hr3⟩, hb3, hk3⟩
        obtain ⟨x0, x1, x2, xf⟩ := hr3.cells
        have hrw := hr3.2.2.2.2.2.1
        have HR3 := Lib.hid (And.intro hr3 (And.intro hb3 hk3))
        have HRW := Lib.hid hrw
        have xf2 := xf 2
        clear hr3 hb3 hk3 hrw xf x0
        obtain ⟨m, hm⟩ : ∃ m, r.said.length = m := ⟨_, rfl⟩
        rw [hm] at HRW HNX hsn
        clear hm
        go_wp2_with (at_builtin; refine lg.wpList_append_row _ rfl (.tmp 38) (.tmp 41) 43 rfl 3 i0 (.int .i64 0) 1 8 Tryz.underlying43 hi hz0 hz1 hz2 rfl (by decide) vs m (r.said.map intV) rfl (HRW.out.frame fun g hg => Below.heap_alloc _ _ _ (HRW.out.lt hg)) ⟨_, 0, none⟩ 1 1 [.int .i64 ((k : Int) + 1)] rfl rfl (cell_one_new _ _ _) (by simp [Value.oneCell']) (by omega) (by unfold maxLen; omega) (by omega) _ rfl ?_)
        intro g cap w5 hown hg hat hglt
        have hrb5 : w5.heap[rb]? = _ := (hg.block rb (by rw [World.size_alloc]; have := HR3.out.1.rlt; omega) (fun e => row_ty HRW.out HR3.out.1.1 (by decide) e.symm)).trans ((Below.heap_alloc _ _ _ HR3.out.1.rlt).trans HR3.out.1.1)
        have y2 : w5.cell? ⟨rb, 2, none⟩ = some vs := cell_of hrb5 rfl
        have yf : w5.frozen? ⟨rb, 2, none⟩ = false := by simp [World.frozen?, hrb5]
        have HN5 := Lib.hid (HNX.out w2 w3 w5 _ g cap vn' rows' HB2.out HR3.out.1 HR3.out.2.1 HR3.out.2.2 hg hown (by rw [World.size_alloc]; exact hat))
        clear hown hg hat hglt hrb5 x1 x2 xf2
        go_wp2_with fail
        go_roundg (gk - 1)
        case rel => exact ⟨k + 1, _, _, _, _, by omega, by go_num, HN5.out⟩
        case measure => omega
    · have hki : ¬ (k : Int) < (n : Int) := by omega
      have h8 := HI.out.2.2.2.2.2.2.2
      have hend : wholeO r = RES := by
       rw [← HRES.out, ← HI.out.2.1, List.drop_eq_nil_of_le (by rw [HNL.out]; omega)]; rfl
      have HWH := Lib.hid (whole_any (HT.out.on h8) HI.out.1 (by rcases HI.out.2.2.2.2.1 with h | h
                                                                 · exact .inl h
                                                                 · exact .inr h.1) (by have := HI.out.2.2.2.1; omega))
      rw [hend] at HWH
      unfold WholePost at HWH
      have HB8 := Lib.hid h8
      have HJ := Lib.hid HI.out.2.2.2.2.2.2.1
      clear h8 hend hkn
      obtain ⟨p, nds, ln, er⟩ := RES
      go_wp2_with fail
      refine HWH.out.mono ?_
      rintro e w2 ⟨v, rfl, hnj, hb2⟩
      obtain ⟨va, vc, hvf, -, -⟩ := hnj.nodes
      have hJ2 := (hb2.block N (Array.getElem?_eq_some_iff.1 HJ.out).1).trans HJ.out
      have n0 : w2.cell? ⟨N, 0, none⟩ = some (.int .i64 0) := cell_of hJ2 rfl
      have n1 : w2.cell? ⟨N, 1, none⟩ = some (.slice none 0 0) := cell_of hJ2 rfl
      have f0 : w2.frozen? ⟨N, 0, none⟩ = false := by simp [World.frozen?, hJ2]
      have f1 : w2.frozen? ⟨N, 1, none⟩ = false := by simp [World.frozen?, hJ2]
      subst hvf
      have HE : Hid (∀ w7, w7.heap = ((w2.setCell ⟨N, 0, none⟩ (.int .i64 p)).setCell ⟨N, 1, none⟩ (.slice va nds.length vc)).heap → w7.os = w2.os → w7.tape = w2.tape → w7.output = w2.output →
        WholePost (p, nds, ln, er) w (.returned (.tuple #[.agg #[.int .i64 p, .slice va nds.length vc], .int .i64 ln, .int .i64 er])) w7) := Lib.hid (fun w7 e1 e2 e3 e4 => by
       have hbb := HB8.out.trans (hb2.mono HB8.out.size)
       have hb7 : Below w.heap.size w w7 := below_same ((hbb.setCell (p := ⟨N, 0, none⟩) (by show w.heap.size ≤ N; have := HNN.out; omega) _).setCell (p := ⟨N, 1, none⟩) (by show w.heap.size ≤ N; have := HNN.out; omega) _) e1 e2 e3 e4
       refine ⟨.slice va nds.length vc, rfl, fun w8 hf => hnj w8 (fun b c t fr hb ht => ?_), hb7⟩
       refine hf b c t fr ?_ ht
       rw [e1]
       exact frameJ_set (setCell_heap hJ2) b c t fr (frameJ_set hJ2 b c t fr hb ht) ht)
      clear hnj hb2 hJ2
      go_wp2_with fail
      exact bodyPost_ret (v := .tuple #[.agg #[.int .i64 p, .slice va nds.length vc], .int .i64 ln, .int .i64 er]) (by simp [results, Tryz.f18, go_sem, n0, n1]) rfl (HE.out _ rfl rfl rfl rfl)
end
end Go.Proofs.YtepdecnegihhhaaGreatDoor.sc

/- DiskPlays returns true: the reference's disk and the program's answer alike. -/
import Derived.Test.YtdajpaigahhhcaaRi
namespace Go.Proofs.Ytdajpaigahhhcaa.dsk
set_option linter.unusedSimpArgs false
set_option linter.unusedVariables false
open Go.RowKit

theorem step_of {P : Program} {ops : Array Oper} {o : Oper} {a : Act} {w : World} {K : Act → World → Prop} {Q : Exit → Act → World → Prop} {E : Prop} (hgd : o.guard = none) (h : Oper.wp P o a w K Q) : if Region.wanted o (yielded ops a.tmps) = true then Oper.wp P o a w K Q else E := by
  rw [if_pos (by simp [Region.wanted, hgd])]
  exact h
theorem pair_start {w w2 w3 w4 : World} {n : Nat} (hb2 : Below w.heap.size w w2) (hd : IsDisk w3 (· = w2.heap.size) w2.heap.size (D.fresh n)) (hb3 : Below w2.heap.size w2 w3) (hs : w3.heap.size = w2.heap.size + 1) (hr : IsRef w4 (· = w3.heap.size) w3.heap.size (D.fresh n)) (hb4 : Below w3.heap.size w3 w4) :
    Alike w.heap.size w w2.heap.size w3.heap.size 0 w4 := by
  have hs2 := hb2.size
  refine ⟨_, _, _, ⟨hd.below hb4, hr, fun k hk hk' => ?_, fun k hk => ?_, fun k hk => ?_, (hb2.trans (hb3.mono hs2)).trans (hb4.mono (by omega)), Nat.le_refl _⟩, Nat.le_refl _⟩
  · have h1 : k = w2.heap.size := hk
    have h2 : k = w3.heap.size := hk'
    omega
  · have h1 : k = w2.heap.size := hk
    omega
  · have h2 : k = w3.heap.size := hk
    omega
/-- What the statement reads of the reference's disk. -/
theorem ref_cells {w : World} {G : Nat → Prop} {r : Nat} {y : D} (h : IsRef w G r y) : ∃ al cl, ∀ W, Below w.heap.size w W → W.cell? ⟨r, 34, none⟩ = some (.bool y.off) ∧ W.cell? ⟨r, 33, none⟩ = some (.slice al y.loose.length cl) := by
  obtain ⟨lo, hr, _⟩ := h
  obtain ⟨al, cl, rfl⟩ : ∃ a c, lo = .slice a y.loose.length c := by
    rcases hr.own.2 with ⟨rfl, h0⟩ | ⟨g, cap, cur, rfl, _⟩
    · exact ⟨none, 0, by rw [h0]⟩
    · exact ⟨_, cap, rfl⟩
  exact ⟨al, cl, fun W hb => ⟨(hr.below hb).cell34, (hr.below hb).cell33⟩⟩
theorem getD_mem {l : List Opn} {k : Nat} (h : k < l.length) : l.getD k noOp ∈ l := by
  rw [List.getD_eq_getElem?_getD, List.getElem?_eq_getElem h]
  exact List.getElem_mem h
set_option maxHeartbeats 6400000 in
set_option maxRecDepth 100000 in
theorem law_plays (room : Int) (l : List Opn) (a : Option Addr) (cap : Nat) (w : World) (hr : Ops w w.heap.size a l) (hl : l.length ≤ cap) (hc : l.length ≤ 9223372036854775807) (hft : ∀ p ∈ l, p.fit) :
    Calls Try.prog 4 #[.int .i64 room, .slice a l.length cap] w fun e w' => e = .returned (.bool true) ∧ Below w.heap.size w w' := by
  have HR := Lib.hid hr
  have HH := Lib.hid (heavy_any l a cap w hr hl hc)
  have HF := Lib.hid hft
  have HLC := Lib.hid hl
  clear hr hft
  go_enter Try.func4, Try.ntmps4
  go_wp2_with fail
  refine HH.out.mono ?_
  rintro e w2 ⟨⟨hv, rfl, h300⟩, hb⟩
  have HB2 := Lib.hid hb
  clear hb
  cases hv
  case true =>
    clear h300
    go_wp2_with fail
    refine (works_any _).mono ?_
    rintro e w3 ⟨rfl, hb⟩
    have HB3 := Lib.hid (HB2.out.trans (hb.mono HB2.out.size)); clear hb
    go_wp2_with fail
    go_ret
    exact ⟨rfl, HB3.out⟩
  have H300 := Lib.hid (h300 rfl)
  clear h300
  by_cases hbad : room < 1 ∨ 4194304 < room
  · have HN := Lib.hid (new_bad room hbad w2)
    have HN2 := Lib.hid (rnew_bad room hbad w2)
    clear hbad
    go_wp2_with fail
    refine HN.out.mono ?_
    rintro e w3 ⟨rfl, rfl⟩
    go_wp2_with fail
    refine HN2.out.mono ?_
    rintro e w3 ⟨rfl, rfl⟩
    go_wp2_with fail
    refine (works_any _).mono ?_
    rintro e w3 ⟨rfl, hb⟩
    have HB3 := Lib.hid (HB2.out.trans (hb.mono HB2.out.size)); clear hb
    go_wp2_with fail
    go_ret
    exact ⟨rfl, HB3.out⟩
  · obtain ⟨rm, rfl⟩ : ∃ r : Nat, room = r := ⟨room.toNat, by omega⟩
    have HN := Lib.hid (new_good rm (by omega) (by omega) w2)
    have HN2 := Lib.hid (fun W => rnew_good rm (by omega) (by omega) W)
    clear hbad
    go_wp2_with fail
    refine HN.out.mono ?_
    rintro e w3 ⟨rfl, hd, hb, hs⟩
    have HD := Lib.hid hd
    have HB3 := Lib.hid hb
    have HS3 := Lib.hid hs
    clear hd hb hs
    go_wp2_with fail
    refine (HN2.out _).mono ?_
    rintro e w4 ⟨rfl, hd, hb⟩
    have HA := Lib.hid (pair_start HB2.out HD.out HB3.out HS3.out hd hb)
    clear hd hb
    obtain ⟨d, hd⟩ : ∃ d, w2.heap.size = d := ⟨_, rfl⟩
    obtain ⟨r, hr⟩ : ∃ r, w3.heap.size = r := ⟨_, rfl⟩
    rw [hd, hr] at HA
    have HDD := Lib.hid hd
    have HRR := Lib.hid hr
    rw [hd, hr]
    clear hd hr
    go_wp2_with fail
    go_loopw [41] (fun i wr => ∃ k : Nat, k ≤ l.length ∧ i = .int .i64 k ∧ Alike w.heap.size w d r k wr) (fun i _ => l.length - (intOf i).toNat)
    case atStart => exact ⟨0, Nat.zero_le _, rfl, HA.out⟩
    case round =>
      obtain ⟨k, hk, rfl, F, G, x, hp, hle⟩ := hrel
      have HP := Lib.hid hp
      have HKL := Lib.hid hk
      clear hp HA
      by_cases hlt : k < l.length
      · obtain ⟨b0, o0, rfl, hbl, hcs⟩ := HR.out (by rintro rfl; simp at hlt)
        have HLN := Lib.hid (show x.loose.length ≤ 300 by have := H300.out; omega)
        have HLE0 := Lib.hid hle
        have HFT := Lib.hid (HF.out _ (getD_mem hlt))
        obtain ⟨p, ep⟩ : ∃ p, l.getD k noOp = p := ⟨_, rfl⟩
        rw [ep] at HFT
        have hck : wr.rangeAt b0 (o0 + k * 5) p.cells := by
          intro j v hv
          rw [← ep] at hv
          exact (HP.out.below.cell (p := ⟨b0, o0 + k * 5 + j, none⟩) hbl).trans (hcs k hlt j v hv)
        have HCK := Lib.hid hck
        obtain ⟨W, hW⟩ : ∃ W, wr.alloc (.cells #[.int .i64 p.kind, .int .i64 p.f, .int .i64 p.n, .int .i64 p.m, .string p.s] 41) = W := ⟨_, rfl⟩
        obtain ⟨bx, hbx⟩ : ∃ bx, wr.heap.size = bx := ⟨_, rfl⟩
        have HBR := Lib.hid (show W.drew.rangeAt bx 0 [.int .i64 p.kind, .int .i64 p.f, .int .i64 p.n, .int .i64 p.m, .string p.s] from fun j v hj => by
          have h1 : W.heap[bx]? = some (.cells #[.int .i64 p.kind, .int .i64 p.f, .int .i64 p.n, .int .i64 p.m, .string p.s] 41 (0, 0)) := by rw [← hW, ← hbx]; exact heap_alloc_new wr _
          rw [Nat.zero_add]
          refine (cell_of_row W bx j _ _ _ h1).trans ?_
          simpa using hj)
        have HPD := Lib.hid (show Pair w.heap.size w F G d r x x W.drew by rw [← hW]; exact (HP.out.on (below_alloc _ _)).on (below_drew _))
        have HW := Lib.hid hW
        have HBX := Lib.hid hbx
        clear hcs hck ep hle hk hW hbx
        go_wp2_with (first | (rw [HBX.out, HW.out]) | (refine wpList_load_mid rfl 41 (.tmp 43) rfl b0 (o0 + k * 5) rfl [.int .i64 p.kind, .int .i64 p.f, .int .i64 p.n, .int .i64 p.m, .string p.s] _ HCK.out Try.underlying41 rfl info41 ?_))
        refine wp_region_any (by kernel_rfl) ?_
        refine wpAny_take (i := 0) (v := ?v1) rfl (by kernel_rfl) (by kernel_rfl) (by kernel_rfl) (fun _ _ _ h => h) (Or.inl ⟨by rfl, ?hy1⟩) ?rest1
        case hy1 => (intro w0; go_simp; try with_reducible rfl)
        try simp only [Act.put, List.getElem_toArray, List.getElem_cons_zero, List.getElem_cons_succ, List.setIfInBounds_toArray, List.set_cons_zero, List.set_cons_succ]
        refine wpAny_take (i := 1) (v := ?v2) rfl (by kernel_rfl) (by kernel_rfl) (by kernel_rfl) (fun _ _ _ h => h) (Or.inl ⟨by rfl, ?hy2⟩) ?rest2
        case hy2 => (intro w0; go_simp; try with_reducible rfl)
        try simp only [Act.put, List.getElem_toArray, List.getElem_cons_zero, List.getElem_cons_succ, List.setIfInBounds_toArray, List.set_cons_zero, List.set_cons_succ]
        refine wpAny_ready (rs := [2]) (by kernel_rfl) (by simp) ?_
        refine AllReady.cons rfl (fun KK hK => ?_) AllReady.nil
        refine step_of rfl (wp_load_mid 41 (.tmp 10) rfl bx 0 (by simp [Act.eval]) [.int .i64 p.kind, .int .i64 p.f, .int .i64 p.n, .int .i64 p.m, .string p.s] _ HBR.out Try.underlying41 rfl info41 ?_)
        refine hK _ _ ?_
        clear hK KK
        try simp only [Act.put, List.getElem_toArray, List.getElem_cons_zero, List.getElem_cons_succ, List.setIfInBounds_toArray, List.set_cons_zero, List.set_cons_succ]
        refine wpAny_ready (rs := [3]) (by kernel_rfl) (by simp) ?_
        refine AllReady.cons rfl (fun KK hK => ?_) AllReady.nil
        go_simp
        go_at_call 23
        refine (does_any p HFT.out _ _ F G d r x _ HPD.out HLN.out).mono ?_
        rintro e w3 ⟨rfl, F3, G3, x3, hp3, hl3⟩
        have HP3 := Lib.hid hp3
        have HL3 := Lib.hid hl3
        obtain ⟨al, cl, hcs⟩ := ref_cells hp3.ref
        have HS := Lib.hid hcs
        obtain ⟨v, hv⟩ : ∃ v, x3.room' = v := ⟨_, rfl⟩
        have HVV := Lib.hid (fun (_ : Unit) => hv)
        obtain ⟨o, ho⟩ : ∃ o, x3.off = o := ⟨_, rfl⟩
        have hon : Calls Try.prog 19 #[ptr d 0] w3 fun e w' => e = .returned (.bool (!o)) ∧ w3 = w' := by
          have := on_at hp3.disk
          rwa [ho] at this
        obtain ⟨L3, hL3⟩ : ∃ L3, x3.loose.length = L3 := ⟨_, rfl⟩
        have hlo : Calls Try.prog 20 #[ptr d 0] w3 fun e w' => e = .returned (.int .i64 L3) ∧ w3 = w' := by
          have := loose_at hp3.disk
          rwa [hL3] at this
        have hle : Calls Try.prog 13 #[ptr d 0] w3 fun e w' => e = .returned (.int .i64 v) ∧ w3 = w' := room_at hp3.disk hv
        have hlr : Calls Try.prog 24 #[ptr r 0] w3 fun e w' => e = .returned (.int .i64 v) ∧ w3 = w' := rleft_at hv _ G3 r hp3.ref
        have HON := Lib.hid hon
        have HLO := Lib.hid hlo
        have HLE := Lib.hid hle
        have HLR := Lib.hid hlr
        rw [ho, hL3] at HS
        clear hp3 hl3 hcs hv ho hL3 hon hlo hle hlr
        refine hK _ _ ?_
        clear hK KK
        try simp only [Act.put, List.getElem_toArray, List.getElem_cons_zero, List.getElem_cons_succ, List.setIfInBounds_toArray, List.set_cons_zero, List.set_cons_succ]
        refine wpAny_of_held (S := fun W => W.cell? ⟨r, 34, none⟩ = some (.bool o) ∧ W.cell? ⟨r, 33, none⟩ = some (.slice al L3 cl)) _ _ _ _ ?_
        have hHeld := HS.out w3 (Below.refl _ _)
        refine wpAnyH_take (i := 4) (v := ?v3) rfl (by kernel_rfl) (by kernel_rfl) (by kernel_rfl) (fun _ _ _ h => h) (Or.inl ⟨by rfl, ?hy3⟩) (by assumption) ?rest3
        case hy3 => (intro w0 hSw; (try dsimp only at hSw); go_simp; try with_reducible rfl)
        try simp only [Act.put, List.getElem_toArray, List.getElem_cons_zero, List.getElem_cons_succ, List.setIfInBounds_toArray, List.set_cons_zero, List.set_cons_succ]
        refine wpAnyH_take (i := 5) (v := ?v4) rfl (by kernel_rfl) (by kernel_rfl) (by kernel_rfl) (fun _ _ _ h => h) (Or.inl ⟨by rfl, ?hy4⟩) (by assumption) ?rest4
        case hy4 => (intro w0 hSw; (try dsimp only at hSw); go_simp; try with_reducible rfl)
        try simp only [Act.put, List.getElem_toArray, List.getElem_cons_zero, List.getElem_cons_succ, List.setIfInBounds_toArray, List.set_cons_zero, List.set_cons_succ]
        refine wpAnyH_take (i := 6) (v := ?v5) rfl (by kernel_rfl) (by kernel_rfl) (by kernel_rfl) (fun _ _ _ h => h) (Or.inl ⟨by rfl, ?hy5⟩) (by assumption) ?rest5
        case hy5 => (intro w0 hSw; (try dsimp only at hSw); go_simp; try with_reducible rfl)
        try simp only [Act.put, List.getElem_toArray, List.getElem_cons_zero, List.getElem_cons_succ, List.setIfInBounds_toArray, List.set_cons_zero, List.set_cons_succ]
        refine wpAnyH_take (i := 8) (v := ?v6) rfl (by kernel_rfl) (by kernel_rfl) (by kernel_rfl) (fun _ _ _ h => h) (Or.inl ⟨by rfl, ?hy6⟩) (by assumption) ?rest6
        case hy6 => (intro w0 hSw; (try dsimp only at hSw); go_simp; try with_reducible rfl)
        try simp only [Act.put, List.getElem_toArray, List.getElem_cons_zero, List.getElem_cons_succ, List.setIfInBounds_toArray, List.set_cons_zero, List.set_cons_succ]
        refine wpAnyH_take (i := 9) (v := ?v7) rfl (by kernel_rfl) (by kernel_rfl) (by kernel_rfl) (fun _ _ _ h => h) (Or.inl ⟨by rfl, ?hy7⟩) (by assumption) ?rest7
        case hy7 => (intro w0 hSw; (try dsimp only at hSw); go_simp; try with_reducible rfl)
        try simp only [Act.put, List.getElem_toArray, List.getElem_cons_zero, List.getElem_cons_succ, List.setIfInBounds_toArray, List.set_cons_zero, List.set_cons_succ]
        refine wpAnyH_take (i := 10) (v := ?v8) rfl (by kernel_rfl) (by kernel_rfl) (by kernel_rfl) (fun _ _ _ h => h) (Or.inl ⟨by rfl, ?hy8⟩) (by assumption) ?rest8
        case hy8 => (intro w0 hSw; (try dsimp only at hSw); go_simp; try with_reducible rfl)
        try simp only [Act.put, List.getElem_toArray, List.getElem_cons_zero, List.getElem_cons_succ, List.setIfInBounds_toArray, List.set_cons_zero, List.set_cons_succ]
        refine wpAnyH_take (i := 11) (v := ?v9) rfl (by kernel_rfl) (by kernel_rfl) (by kernel_rfl) (fun _ _ _ h => h) (Or.inl ⟨by rfl, ?hy9⟩) (by assumption) ?rest9
        case hy9 => (intro w0 hSw; (try dsimp only at hSw); go_simp; try with_reducible rfl)
        try simp only [Act.put, List.getElem_toArray, List.getElem_cons_zero, List.getElem_cons_succ, List.setIfInBounds_toArray, List.set_cons_zero, List.set_cons_succ]
        refine wpAnyH_ready (rs := [7]) (by kernel_rfl) (by simp) ?_
        refine AllReadyH.cons rfl (fun KK hK => ?_) AllReadyH.nil
        go_simp
        go_at_call 19
        refine (HON.out).mono ?_
        rintro e w9 ⟨rfl, rfl⟩
        refine hK.out _ _ ?_ (fun hHeld => ?_)
        · exact HS.out _ (Below.refl _ _)
        clear hK KK
        try simp only [Act.put, List.getElem_toArray, List.getElem_cons_zero, List.getElem_cons_succ, List.setIfInBounds_toArray, List.set_cons_zero, List.set_cons_succ]
        refine wpAnyH_take (i := 12) (v := ?v10) rfl (by kernel_rfl) (by kernel_rfl) (by kernel_rfl) (fun _ _ _ h => h) (Or.inl ⟨by rfl, ?hy10⟩) (by assumption) ?rest10
        case hy10 => (intro w0 hSw; (try dsimp only at hSw); go_simp; try with_reducible rfl)
        try simp only [Act.put, List.getElem_toArray, List.getElem_cons_zero, List.getElem_cons_succ, List.setIfInBounds_toArray, List.set_cons_zero, List.set_cons_succ]
        refine wpAnyH_take (i := 13) (v := ?v11) rfl (by kernel_rfl) (by kernel_rfl) (by kernel_rfl) (fun _ _ _ h => h) (Or.inl ⟨by rfl, ?hy11⟩) (by assumption) ?rest11
        case hy11 => (intro w0 hSw; (try dsimp only at hSw); go_simp; try with_reducible rfl)
        try simp only [Act.put, List.getElem_toArray, List.getElem_cons_zero, List.getElem_cons_succ, List.setIfInBounds_toArray, List.set_cons_zero, List.set_cons_succ]
        refine wpAnyH_take (i := 14) (v := ?v12) rfl (by kernel_rfl) (by kernel_rfl) (by kernel_rfl) (fun _ _ _ h => h) (Or.inl ⟨by rfl, ?hy12⟩) (by assumption) ?rest12
        case hy12 => (intro w0 hSw; (try dsimp only at hSw); go_simp; try with_reducible rfl)
        try simp only [Act.put, List.getElem_toArray, List.getElem_cons_zero, List.getElem_cons_succ, List.setIfInBounds_toArray, List.set_cons_zero, List.set_cons_succ]
        refine wpAnyH_take (i := 15) (v := ?v13) rfl (by kernel_rfl) (by kernel_rfl) (by kernel_rfl) (fun _ _ _ h => h) (Or.inl ⟨by rfl, ?hy13⟩) (by assumption) ?rest13
        case hy13 => (intro w0 hSw; (try dsimp only at hSw); go_simp; try with_reducible rfl)
        try simp only [Act.put, List.getElem_toArray, List.getElem_cons_zero, List.getElem_cons_succ, List.setIfInBounds_toArray, List.set_cons_zero, List.set_cons_succ]
        refine wpAnyH_take (i := 17) (v := ?v14) rfl (by kernel_rfl) (by kernel_rfl) (by kernel_rfl) (fun _ _ _ h => h) (Or.inl ⟨by rfl, ?hy14⟩) (by assumption) ?rest14
        case hy14 => (intro w0 hSw; (try dsimp only at hSw); go_simp; try with_reducible rfl)
        try simp only [Act.put, List.getElem_toArray, List.getElem_cons_zero, List.getElem_cons_succ, List.setIfInBounds_toArray, List.set_cons_zero, List.set_cons_succ]
        refine wpAnyH_take (i := 18) (v := ?v15) rfl (by kernel_rfl) (by kernel_rfl) (by kernel_rfl) (fun _ _ _ h => h) (Or.inl ⟨by rfl, ?hy15⟩) (by assumption) ?rest15
        case hy15 => (intro w0 hSw; (try dsimp only at hSw); go_simp; try with_reducible rfl)
        try simp only [Act.put, List.getElem_toArray, List.getElem_cons_zero, List.getElem_cons_succ, List.setIfInBounds_toArray, List.set_cons_zero, List.set_cons_succ]
        refine wpAnyH_take (i := 19) (v := ?v16) rfl (by kernel_rfl) (by kernel_rfl) (by kernel_rfl) (fun _ _ _ h => h) (Or.inl ⟨by rfl, ?hy16⟩) (by assumption) ?rest16
        case hy16 => (intro w0 hSw; (try dsimp only at hSw); go_simp; try with_reducible rfl)
        try simp only [Act.put, List.getElem_toArray, List.getElem_cons_zero, List.getElem_cons_succ, List.setIfInBounds_toArray, List.set_cons_zero, List.set_cons_succ]
        refine wpAnyH_take (i := 20) (v := ?v17) rfl (by kernel_rfl) (by kernel_rfl) (by kernel_rfl) (fun _ _ _ h => h) (Or.inl ⟨by rfl, ?hy17⟩) (by assumption) ?rest17
        case hy17 => (intro w0 hSw; (try dsimp only at hSw); go_simp; try with_reducible rfl)
        try simp only [Act.put, List.getElem_toArray, List.getElem_cons_zero, List.getElem_cons_succ, List.setIfInBounds_toArray, List.set_cons_zero, List.set_cons_succ]
        refine wpAnyH_take (i := 21) (v := ?v18) rfl (by kernel_rfl) (by kernel_rfl) (by kernel_rfl) (fun _ _ _ h => h) (Or.inl ⟨by rfl, ?hy18⟩) (by assumption) ?rest18
        case hy18 => (intro w0 hSw; (try dsimp only at hSw); go_simp; try with_reducible rfl)
        try simp only [Act.put, List.getElem_toArray, List.getElem_cons_zero, List.getElem_cons_succ, List.setIfInBounds_toArray, List.set_cons_zero, List.set_cons_succ]
        refine wpAnyH_ready (rs := [16]) (by kernel_rfl) (by simp) ?_
        refine AllReadyH.cons rfl (fun KK hK => ?_) AllReadyH.nil
        go_simp
        go_at_call 20
        refine (HLO.out).mono ?_
        rintro e w9 ⟨rfl, rfl⟩
        refine hK.out _ _ ?_ (fun hHeld => ?_)
        · exact HS.out _ (Below.refl _ _)
        clear hK KK
        try simp only [Act.put, List.getElem_toArray, List.getElem_cons_zero, List.getElem_cons_succ, List.setIfInBounds_toArray, List.set_cons_zero, List.set_cons_succ]
        refine wpAnyH_take (i := 22) (v := ?v19) rfl (by kernel_rfl) (by kernel_rfl) (by kernel_rfl) (fun _ _ _ h => h) (Or.inl ⟨by rfl, ?hy19⟩) (by assumption) ?rest19
        case hy19 => (intro w0 hSw; (try dsimp only at hSw); go_simp; try with_reducible rfl)
        try simp only [Act.put, List.getElem_toArray, List.getElem_cons_zero, List.getElem_cons_succ, List.setIfInBounds_toArray, List.set_cons_zero, List.set_cons_succ]
        refine wpAnyH_take (i := 23) (v := ?v20) rfl (by kernel_rfl) (by kernel_rfl) (by kernel_rfl) (fun _ _ _ h => h) (Or.inl ⟨by rfl, ?hy20⟩) (by assumption) ?rest20
        case hy20 => (intro w0 hSw; (try dsimp only at hSw); go_simp; try with_reducible rfl)
        try simp only [Act.put, List.getElem_toArray, List.getElem_cons_zero, List.getElem_cons_succ, List.setIfInBounds_toArray, List.set_cons_zero, List.set_cons_succ]
        refine wpAnyH_take (i := 24) (v := ?v21) rfl (by kernel_rfl) (by kernel_rfl) (by kernel_rfl) (fun _ _ _ h => h) (Or.inl ⟨by rfl, ?hy21⟩) (by assumption) ?rest21
        case hy21 => (intro w0 hSw; (try dsimp only at hSw); go_simp; try with_reducible rfl)
        try simp only [Act.put, List.getElem_toArray, List.getElem_cons_zero, List.getElem_cons_succ, List.setIfInBounds_toArray, List.set_cons_zero, List.set_cons_succ]
        refine wpAnyH_take (i := 25) (v := ?v22) rfl (by kernel_rfl) (by kernel_rfl) (by kernel_rfl) (fun _ _ _ h => h) (Or.inl ⟨by rfl, ?hy22⟩) (by assumption) ?rest22
        case hy22 => (intro w0 hSw; (try dsimp only at hSw); go_simp; try with_reducible rfl)
        try simp only [Act.put, List.getElem_toArray, List.getElem_cons_zero, List.getElem_cons_succ, List.setIfInBounds_toArray, List.set_cons_zero, List.set_cons_succ]
        refine wpAnyH_take (i := 27) (v := ?v23) rfl (by kernel_rfl) (by kernel_rfl) (by kernel_rfl) (fun _ _ _ h => h) (Or.inl ⟨by rfl, ?hy23⟩) (by assumption) ?rest23
        case hy23 => (intro w0 hSw; (try dsimp only at hSw); go_simp; try with_reducible rfl)
        try simp only [Act.put, List.getElem_toArray, List.getElem_cons_zero, List.getElem_cons_succ, List.setIfInBounds_toArray, List.set_cons_zero, List.set_cons_succ]
        refine wpAnyH_ready (rs := [26]) (by kernel_rfl) (by simp) ?_
        refine AllReadyH.cons rfl (fun KK hK => ?_) AllReadyH.nil
        go_simp
        go_at_call 13
        refine (HLE.out).mono ?_
        rintro e w9 ⟨rfl, rfl⟩
        refine hK.out _ _ ?_ (fun hHeld => ?_)
        · exact HS.out _ (Below.refl _ _)
        clear hK KK
        try simp only [Act.put, List.getElem_toArray, List.getElem_cons_zero, List.getElem_cons_succ, List.setIfInBounds_toArray, List.set_cons_zero, List.set_cons_succ]
        refine wpAnyH_ready (rs := [28]) (by kernel_rfl) (by simp) ?_
        refine AllReadyH.cons rfl (fun KK hK => ?_) AllReadyH.nil
        go_simp
        go_at_call 24
        refine (HLR.out).mono ?_
        rintro e w9 ⟨rfl, rfl⟩
        refine hK.out _ _ ?_ (fun hHeld => ?_)
        · exact HS.out _ (Below.refl _ _)
        clear hK KK
        try simp only [Act.put, List.getElem_toArray, List.getElem_cons_zero, List.getElem_cons_succ, List.setIfInBounds_toArray, List.set_cons_zero, List.set_cons_succ]
        refine wpAnyH_take (i := 29) (v := ?v24) rfl (by kernel_rfl) (by kernel_rfl) (by kernel_rfl) (fun _ _ _ h => h) (Or.inl ⟨by rfl, ?hy24⟩) (by assumption) ?rest24
        case hy24 => (intro w0 hSw; (try dsimp only at hSw); go_simp; try with_reducible rfl)
        try simp only [Act.put, List.getElem_toArray, List.getElem_cons_zero, List.getElem_cons_succ, List.setIfInBounds_toArray, List.set_cons_zero, List.set_cons_succ]
        refine wpAnyH_take (i := 30) (v := ?v25) rfl (by kernel_rfl) (by kernel_rfl) (by kernel_rfl) (fun _ _ _ h => h) (Or.inl ⟨by rfl, ?hy25⟩) (by assumption) ?rest25
        case hy25 => (intro w0 hSw; (try dsimp only at hSw); go_simp; try with_reducible rfl)
        try simp only [Act.put, List.getElem_toArray, List.getElem_cons_zero, List.getElem_cons_succ, List.setIfInBounds_toArray, List.set_cons_zero, List.set_cons_succ]
        refine wpAnyH_done (by kernel_rfl) ?_ _
        clear hHeld
        go_wp2_with fail
        go_roundw
        case rel => exact ⟨k + 1, by omega, by go_num, _, _, _, HP3.out, by have := HL3.out; have := HLE0.out; omega⟩
        case measure => simp [intOf]; omega
      · obtain rfl : k = l.length := by omega
        clear hk hle hlt
        go_wp2_with fail
        go_loopw [77] (fun i w5 => ∃ j : Nat, j ≤ 16 ∧ i = .int .i64 j ∧ Pair w.heap.size w F G d r x x w5) (fun i _ => 16 - (intOf i).toNat)
        case atStart => exact ⟨0, by omega, rfl, HP.out⟩
        case round =>
          obtain ⟨j, hj, rfl, hp5⟩ := hrel
          have HP5 := Lib.hid hp5
          clear hp5
          by_cases hlt : j < 16
          · obtain ⟨s, E, hcall⟩ : ∃ s E, x.read j = (s, E) := ⟨_, _, rfl⟩
            have HC := Lib.hid (fun (_ : Unit) => hcall)
            clear hcall
            go_wp2_with fail
            refine (read_at (HC.out ()) _ F d HP5.out.disk).mono ?_
            rintro e w6 ⟨rfl, hb⟩
            have HP6 := Lib.hid (HP5.out.on hb)
            clear hb
            go_wp2_with fail
            refine (rread_at (HC.out ()) _ G r HP6.out.ref).mono ?_
            rintro e w7 ⟨rfl, rfl⟩
            go_wp2_with fail
            go_roundw
            case rel => exact ⟨j + 1, by omega, by go_num, HP6.out⟩
            case measure => simp [intOf]; omega
          · have hj16 : (16 : Int) ≤ (j : Int) := by omega
            clear hlt hj
            go_wp2_with fail
            refine (works_any _).mono ?_
            rintro e w8 ⟨rfl, hb⟩
            have HB8 := Lib.hid (HP5.out.below.trans (hb.mono HP5.out.size)); clear hb
            go_wp2_with fail
            go_ret
            exact ⟨rfl, HB8.out⟩
end Go.Proofs.Ytdajpaigahhhcaa.dsk

/- Two jobs that tell the same are the same. -/
import Derived.Test.YtimjpgmgpgpanaaGreatDoorScN
import Derived.Deep.QuietTactic
namespace Go.Proofs.YtimjpgmgpgpanaaGreatDoor.sc
set_option linter.unusedSimpArgs false
set_option linter.unusedVariables false
open Go.RowKit nam exp jb

def EqPost (xs ys : List Int) (w : World) (e : Ending) (w' : World) : Prop := e = .returned (.bool (decide (xs = ys))) ∧ Below w.heap.size w w'
theorem eq_yes {xs ys : List Int} {w w' : World} (h : xs = ys) (hb : Below w.heap.size w w') : EqPost xs ys w (.returned (.bool true)) w' := ⟨by rw [decide_eq_true h], hb⟩
theorem eq_no {xs ys : List Int} {w w' : World} (h : xs ≠ ys) (hb : Below w.heap.size w w') : EqPost xs ys w (.returned (.bool false)) w' := ⟨by rw [decide_eq_false h], hb⟩
def Pre (xs ys : List Int) (k : Nat) : Prop := xs.take k = ys.take k
theorem pre_more {xs ys : List Int} {k : Nat} (h : Pre xs ys k) (hk : k < xs.length) (hk2 : k < ys.length) (he : xs[k] = ys[k]) : Pre xs ys (k + 1) := by
  unfold Pre at h ⊢
  rw [List.take_succ_eq_append_getElem hk, List.take_succ_eq_append_getElem hk2, h, he]
theorem drewN_below (w : World) (q : Nat) : Below w.heap.size w (w.drewN q) := ⟨rfl, rfl, rfl, Nat.le_refl _, fun _ _ => rfl⟩
set_option maxHeartbeats 800000 in
set_option maxRecDepth 1000000 in
theorem equal_ints {xs ys : List Int} {u v : Value} {w : World} (h : IRow w u xs) (h' : IRow w v ys) (hl : xs.length ≤ 1000000) (hl' : ys.length ≤ 1000000) :
    Calls Tryz.prog 53 #[u, v] w (EqPost xs ys w) := by
  obtain ⟨a, c, rfl, h⟩ := h
  obtain ⟨a', c', rfl, h'⟩ := h'
  by_cases hlen : xs.length = ys.length
  · have HX := Lib.hid h; have HY := Lib.hid h'; have HLEN := Lib.hid hlen
    have hn : ((xs.length : Int) != (ys.length : Int)) = false := by simp; omega
    clear h h' hlen
    go_enter Tryz.func53, Tryz.ntmps53
    go_wp2
    go_loopg [13] xs.length (fun g v13 wr => ∃ k : Nat, k + g = xs.length ∧ v13 = .int .i64 k ∧ Pre xs ys k ∧ Below w.heap.size w wr)
    case atStart => exact ⟨0, by omega, rfl, rfl, Below.refl _ _⟩
    case round =>
      obtain ⟨k, hkg, rfl, hp, hb⟩ := hrel
      have HP := Lib.hid hp; have HB := Lib.hid hb
      clear hp hb
      have hle := HLEN.out
      cases gk with
      | zero =>
        have hkz : ¬ ((k : Int) < (xs.length : Int)) := by omega
        have HE := Lib.hid (show xs = ys by
          have := HP.out
          unfold Pre at this
          rwa [List.take_of_length_le (by omega), List.take_of_length_le (by omega)] at this)
        clear hle
        go_wp2
        go_ret
        exact eq_yes HE.out HB.out
      | succ g =>
        have hkz : (k : Int) < (xs.length : Int) := by omega
        have hkz' : (k : Int) < (ys.length : Int) := by omega
        have hk0 : (0 : Int) ≤ (k : Int) := by omega
        have hkx : k < xs.length := by omega
        have hky : k < ys.length := by omega
        obtain ⟨b, o, rfl, hlt, hc⟩ := HX.out (by omega)
        obtain ⟨b', o', rfl, hlt', hc'⟩ := HY.out (by omega)
        have hck := (HB.out.cell (p := ⟨b, o + k, none⟩) hlt).trans (hc k hkx)
        have hck' := (HB.out.cell (p := ⟨b', o' + k, none⟩) hlt').trans (hc' k hky)
        have HM := Lib.hid (fun he => pre_more HP.out hkx hky he)
        obtain ⟨x, ex⟩ : ∃ x, xs[k] = x := ⟨_, rfl⟩
        obtain ⟨y, ey⟩ : ∃ y, ys[k] = y := ⟨_, rfl⟩
        rw [ex, ey] at HM
        rw [ex] at hck
        rw [ey] at hck'
        have HNE : Hid (x ≠ y → xs ≠ ys) := Lib.hid (fun hxy e => hxy (by rw [← ex, ← ey]; exact List.getElem_of_eq e hkx))
        clear hc hc' ex ey hle hkx hky
        by_cases hxy : x = y
        · have HM2 := Lib.hid (HM.out hxy)
          subst hxy
          go_wp2
          go_quiet (fail)
          go_wp2
          go_roundg g
          case measure => omega
          case rel => exact ⟨k + 1, by omega, by go_num, HM2.out, HB.out.trans ((drewN_below _ _).mono HB.out.size)⟩
        · have hne : (x != y) = true := by simp [hxy]
          have hne2 : (x == y) = false := by simp [hxy]
          have HE := Lib.hid (HNE.out hxy)
          clear hxy
          go_wp2
          go_quiet (fail)
          go_wp2
          go_ret
          exact eq_no HE.out (HB.out.trans ((drewN_below _ _).mono HB.out.size))
  · have hn : ((xs.length : Int) != (ys.length : Int)) = true := by simp; omega
    have HE := Lib.hid (show xs ≠ ys from fun e => hlen (by rw [e]))
    clear hlen
    go_enter Tryz.func53, Tryz.ntmps53
    go_wp2
    go_ret
    exact eq_no HE.out (Below.refl _ _)

def zn (nd : Nd) (vi va : Value) (w : World) : World := w.alloc (.cells #[.string nd.uid, .int .u8 (nd.kind : Int), vi, .int .u8 (nd.x.op : Int), .int .i64 nd.x.n, va, .int .i64 nd.n] 50)
set_option maxHeartbeats 800000 in
set_option maxRecDepth 1000000 in
theorem same_yes {w : World} {u v : Value} {nd : Nd} (h : NodeIs w u nd) (h' : NodeIs w v nd) (hi : nd.ins.length ≤ 1000000) (hx : nd.x.size ≤ 1000000) :
    Calls Tryz.prog 30 #[u, v] w fun e w' => e = .returned (.bool true) ∧ Below w.heap.size w w' := by
  obtain ⟨vi, va, rfl, h1, h2⟩ := h
  obtain ⟨vj, vb, rfl, h3, h4⟩ := h'
  obtain ⟨ai, ci, rfl, -⟩ := id h1
  obtain ⟨aj, cj, rfl, -⟩ := id h3
  obtain ⟨aa, ca, rfl, -⟩ := h2.form
  obtain ⟨ab, cb, rfl, -⟩ := h4.form
  obtain ⟨N, hN⟩ : ∃ N, w.heap.size = N := ⟨_, rfl⟩
  obtain ⟨W1, hW1⟩ : ∃ W, w.alloc (.cells #[.string nd.uid, .int .u8 (nd.kind : Int), .slice ai nd.ins.length ci, .int .u8 (nd.x.op : Int), .int .i64 nd.x.n, .slice aa nd.x.args.length ca, .int .i64 nd.n] 50) = W := ⟨_, rfl⟩
  obtain ⟨W2, hW2⟩ : ∃ W, W1.alloc (.cells #[.string nd.uid, .int .u8 (nd.kind : Int), .slice aj nd.ins.length cj, .int .u8 (nd.x.op : Int), .int .i64 nd.x.n, .slice ab nd.x.args.length cb, .int .i64 nd.n] 50) = W := ⟨_, rfl⟩
  have hb1 : Below w.heap.size w W1 := by rw [← hW1]; exact below_made _ _
  have hb12 : Below W1.heap.size W1 W2 := by rw [← hW2]; exact below_made _ _
  have hb2 : Below w.heap.size w W2 := hb1.trans (hb12.mono hb1.size)
  obtain ⟨c0, c1, c2, c3, c4, c5, c6⟩ := box7 hW1
  obtain ⟨d0, d1, d2, d3, d4, d5, d6⟩ := box7 hW2
  have hs1 : W1.heap.size = N + 1 := by rw [← hW1, World.size_alloc, hN]
  rw [hN] at c0 c1 c2 c3 c4 c5 c6
  rw [hs1] at d0 d1 d2 d3 d4 d5 d6
  have HE := Lib.hid (equal_ints (h1.on hb2) (h3.on hb2) hi hi)
  unfold EqPost at HE
  rw [decide_eq_true (rfl : nd.ins = nd.ins)] at HE
  have HX : Hid (∀ w', Below W2.heap.size W2 w' → Calls Tryz.prog 54 #[exV nd.x (.slice aa nd.x.args.length ca), exV nd.x (.slice ab nd.x.args.length cb)] w' fun e w'' => e = .returned (.bool true) ∧ Below w'.heap.size w' w'') := Lib.hid (fun w' hb => by
    refine (same_any ((h2.under hb2).under hb) ((h4.under hb2).under hb) hx).mono ?_
    rintro e w'' ⟨r, rfl, hr, hb'⟩
    rw [hr.2 rfl]
    exact ⟨rfl, hb'⟩)
  unfold exV at HX
  have e0 := cell_on c0 hb12; have e1 := cell_on c1 hb12; have e2 := cell_on c2 hb12; have e6 := cell_on c6 hb12
  have HC : Hid (∀ w', Below W2.heap.size W2 w' → (w'.cell? ⟨N, 3, none⟩ = some (.int .u8 (nd.x.op : Int)) ∧ w'.cell? ⟨N, 4, none⟩ = some (.int .i64 nd.x.n) ∧ w'.cell? ⟨N, 5, none⟩ = some (.slice aa nd.x.args.length ca)) ∧
      (w'.cell? ⟨N + 1, 3, none⟩ = some (.int .u8 (nd.x.op : Int)) ∧ w'.cell? ⟨N + 1, 4, none⟩ = some (.int .i64 nd.x.n) ∧ w'.cell? ⟨N + 1, 5, none⟩ = some (.slice ab nd.x.args.length cb))) := Lib.hid (fun w' hb =>
    ⟨⟨cell_on (cell_on c3 hb12) hb, cell_on (cell_on c4 hb12) hb, cell_on (cell_on c5 hb12) hb⟩, cell_on d3 hb, cell_on d4 hb, cell_on d5 hb⟩)
  have HB2 := Lib.hid hb2
  have HN := Lib.hid hN; have HW1 := Lib.hid hW1; have HW2 := Lib.hid hW2; have HS1 := Lib.hid hs1
  obtain ⟨ni, hni⟩ : ∃ n, nd.ins.length = n := ⟨_, rfl⟩
  unfold nodeV
  clear h1 h2 h3 h4 hi hx hN hW1 hW2 hs1 hb1 hb12 hb2 c0 c1 c2 c3 c4 c5 c6 d3 d4 d5 hni
  go_enter Tryz.func30, Tryz.ntmps30
  go_upto_region 1 with fail
  rw [HW1.out, HW2.out, HN.out]
  go_wp2_with fail
  refine HE.out.mono ?_
  rintro e w1 ⟨rfl, hb1⟩
  obtain ⟨⟨f3, f4, f5⟩, g3, g4, g5⟩ := HC.out w1 hb1
  have HX1 := Lib.hid (HX.out w1 hb1)
  have HB3 := Lib.hid (HB2.out.trans (hb1.mono HB2.out.size))
  clear hb1
  go_wp2_with fail
  refine HX1.out.mono ?_
  rintro e w2 ⟨rfl, hb2⟩
  have HB4 := Lib.hid (HB3.out.trans (hb2.mono HB3.out.size))
  clear hb2
  go_wp2_with fail
  go_ret
  exact ⟨rfl, HB4.out⟩
end Go.Proofs.YtimjpgmgpgpanaaGreatDoor.sc

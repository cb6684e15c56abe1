/- What changelingref08.Same and Deep answer. -/
import Derived.Test.YtjmfneljgogohaaDoorExQ
namespace Go.Proofs.YtjmfneljgogohaaDoor.exp
set_option linter.unusedSimpArgs false
set_option linter.unusedVariables false
open Go.RowKit nam

/-- Whether both are the same. -/
def SPost (x y : Ex) (w : World) (e : Ending) (w' : World) : Prop := ∃ r : Bool, e = .returned (.bool r) ∧ (r = true ↔ x = y) ∧ Below w.heap.size w w'
theorem SPost.no {x y : Ex} {w w' : World} (h : x ≠ y) (hb : Below w.heap.size w w') : SPost x y w (.returned (.bool false)) w' := ⟨false, rfl, by simp [h], hb⟩
theorem SPost.yes {x y : Ex} {w w' : World} (h : x = y) (hb : Below w.heap.size w w') : SPost x y w (.returned (.bool true)) w' := ⟨true, rfl, by simp [h], hb⟩

/-- What both boxes hold. -/
structure Two (w W : World) (N : Nat) (x y : Ex) (v u : Value) : Prop where
  size : w.heap.size = N
  below : Below w.heap.size w W
  x0 : W.cell? ⟨N, 0, none⟩ = some (.int .u8 (x.op : Int))
  x1 : W.cell? ⟨N, 1, none⟩ = some (.int .i64 x.n)
  x2 : W.cell? ⟨N, 2, none⟩ = some v
  y0 : W.cell? ⟨N + 1, 0, none⟩ = some (.int .u8 (y.op : Int))
  y1 : W.cell? ⟨N + 1, 1, none⟩ = some (.int .i64 y.n)
  y2 : W.cell? ⟨N + 1, 2, none⟩ = some u
  lt : W.heap.size = N + 1 + 1
theorem two_made (w : World) (x y : Ex) (v u : Value) : ∃ N W, (w.alloc (.cells #[.int .u8 (x.op : Int), .int .i64 x.n, v] 28)).alloc (.cells #[.int .u8 (y.op : Int), .int .i64 y.n, u] 28) = W ∧ Two w W N x y v u := by
  obtain ⟨N, hN⟩ : ∃ N, w.heap.size = N := ⟨_, rfl⟩
  refine ⟨N, _, rfl, hN, ((Below.refl _ _).alloc (Nat.le_refl _) _).alloc (by simp) _, ?_, ?_, ?_, ?_, ?_, ?_, by simp [hN]⟩
  · exact cell_of (heap_old (heap_last hN.symm)) rfl
  · exact cell_of (heap_old (heap_last hN.symm)) rfl
  · exact cell_of (heap_old (heap_last hN.symm)) rfl
  · exact cell_of (heap_last (by simp [hN])) rfl
  · exact cell_of (heap_last (by simp [hN])) rfl
  · exact cell_of (heap_last (by simp [hN])) rfl
theorem Two.on {w W wr : World} {N : Nat} {x y : Ex} {v u : Value} (h : Two w W N x y v u) (hb : Below W.heap.size W wr) :
    wr.cell? ⟨N, 2, none⟩ = some v ∧ wr.cell? ⟨N + 1, 2, none⟩ = some u := by
  have hl := h.lt
  exact ⟨(hb.cell (p := ⟨N, 2, none⟩) (by show N < _; omega)).trans h.x2, (hb.cell (p := ⟨N + 1, 2, none⟩) (by show N + 1 < _; omega)).trans h.y2⟩

set_option maxHeartbeats 1600000 in
set_option maxRecDepth 1000000 in
theorem rsame_any : ∀ (s : Nat), s ≤ 1000000 → ∀ (x : Ex), x.size ≤ s → ∀ (y : Ex) (v u : Value) (B B' : Nat → Prop) (w : World), Lies w B v x.args → Lies w B' u y.args →
    Calls Tryd.prog 28 #[exV x v, exV y u] w (SPost x y w) := by
  intro s
  induction s with
  | zero => intro _ x hx; have := size_pos x; omega
  | succ s ih =>
    intro hs x hx y v u B B' w hlx hly
    obtain ⟨N, W, hW, hT⟩ := two_made w x y v u
    obtain ⟨a, c, rfl, hfx⟩ := hlx.form
    obtain ⟨a', c', rfl, hfy⟩ := hly.form
    obtain ⟨x0, x1, x2, y0, y1, y2⟩ : _ ∧ _ ∧ _ ∧ _ ∧ _ ∧ _ := ⟨hT.x0, hT.x1, hT.x2, hT.y0, hT.y1, hT.y2⟩
    have hN := hT.size
    have HT := Lib.hid hT; have HX := Lib.hid hfx; have HY := Lib.hid hfy; have HLX := Lib.hid hlx; have HLY := Lib.hid hly
    have hxl : x.args.length < x.size := by rw [size_eq x]; have := sizes_len x.args; omega
    clear hT hfx hfy hlx hly
    unfold exV
    by_cases ho : x.op = y.op
    · have ho' : ((x.op : Int) != (y.op : Int)) = false := by simp [ho]
      have HO := Lib.hid ho; clear ho
      by_cases hn : x.n = y.n
      · have hn' : (x.n != y.n) = false := by simp [hn]
        have HN := Lib.hid hn; clear hn
        by_cases hl : x.args.length = y.args.length
        · have hl' : ((x.args.length : Int) != (y.args.length : Int)) = false := by simp [hl]
          have HE := Lib.hid (And.intro HO.out (And.intro HN.out hl))
          clear hl
          go_enter Tryd.func28, Tryd.ntmps28
          go_wp2_with fail
          go_loopg [5] x.args.length (fun g v5 wr => ∃ k : Nat, k + g = x.args.length ∧ v5 = .int .i64 (k : Int) ∧ (∀ i (h : i < k) (h1 : i < x.args.length) (h2 : i < y.args.length), x.args[i] = y.args[i]) ∧ Below W.heap.size W wr)
          case atStart => exact ⟨0, by omega, rfl, fun i h => by omega, Below.refl _ _⟩
          case round =>
            rename World => wr
            obtain ⟨k, hk, rfl, heq, hb⟩ := hrel
            have HQ := Lib.hid heq; have HB := Lib.hid hb; clear heq hb
            obtain ⟨xr, yr⟩ := HT.out.on HB.out
            by_cases hk' : k < x.args.length
            · have hk2 : k < y.args.length := by rw [← HE.out.2.2]; exact hk'
              obtain ⟨b1, rfl, hex⟩ := HX.out (by omega)
              obtain ⟨b2, rfl, hey⟩ := HY.out (by omega)
              have hbr : Below w.heap.size w wr := HT.out.below.trans (HB.out.mono (by have := HT.out.lt; have := HT.out.size; omega))
              have hax := (hex k hk').below hbr
              have hay := (hey k hk2).below hbr
              obtain ⟨a1, d1, p0, p1, p2, hlp, _⟩ := hax.cells
              obtain ⟨a2, d2, q0, q1, q2, hlq, _⟩ := hay.cells
              have hsz := size_arg (List.getElem_mem hk')
              have hkn : (k : Int) < (x.args.length : Int) := by omega
              have hkn2 : (k : Int) < (y.args.length : Int) := by omega
              have HC := Lib.hid (ih (by omega) x.args[k] (by omega) y.args[k] _ _ B B' wr.drew (hlp.under (Below.refl _ _).drew) (hlq.under (Below.refl _ _).drew))
              unfold exV at HC
              obtain ⟨X, hX⟩ : ∃ X, x.args[k] = X := ⟨_, rfl⟩
              obtain ⟨Y, hY⟩ : ∃ Y, y.args[k] = Y := ⟨_, rfl⟩
              rw [hX] at p0 p1 p2 HC hsz
              rw [hY] at q0 q1 q2 HC
              have HXY := Lib.hid (And.intro hX hY)
              have HBR := Lib.hid hbr
              clear hX hY hex hey hbr hax hay hlp hlq
              go_upto_region 6 with fail
              go_cut [45] (fun t w3 => ∃ r : Bool, t = .bool (!r) ∧ (r = true ↔ X = Y) ∧ Below wr.heap.size wr w3)
              case first =>
                go_region_with (go_at_call 28; (refine HC.out.mono ?_); rintro e w3 ⟨r, rfl, hr, hb3⟩)
                all_goals (have HZ := Lib.hid (And.intro hr hb3); clear hr hb3; go_wp2_with fail; go_meet; exact ⟨r, rfl, HZ.out.1, ⟨HZ.out.2.os, HZ.out.2.tape, HZ.out.2.output, HZ.out.2.size, HZ.out.2.block⟩⟩)
              case rest =>
                rename World => w4
                obtain ⟨r, rfl, hr, hb3⟩ := hcut
                cases r with
                | true =>
                  have HN : Hid ((∀ i (h : i < k + 1) (h1 : i < x.args.length) (h2 : i < y.args.length), x.args[i] = y.args[i]) ∧ Below W.heap.size W w4) := Lib.hid ⟨fun i h h1 h2 => by
                    by_cases hik : i < k
                    · exact HQ.out i hik h1 h2
                    · obtain rfl : i = k := by omega
                      rw [HXY.out.1, HXY.out.2]
                      exact hr.1 rfl, HB.out.trans (hb3.mono HB.out.size)⟩
                  clear hr hb3
                  go_wp2_with fail
                  go_roundg (gk - 1)
                  case measure => omega
                  case rel => exact ⟨k + 1, by omega, by go_num, HN.out.1, HN.out.2⟩
                | false =>
                  have HP : Hid (SPost x y w (.returned (.bool false)) w4) := Lib.hid (SPost.no (fun e => by
                    have h1 : X = Y := by rw [← HXY.out.1, ← HXY.out.2]; simp only [e]
                    exact absurd (hr.2 h1) (by simp)) (HBR.out.trans (hb3.mono HBR.out.size)))
                  clear hr hb3
                  go_wp2_with fail
                  try rw [Exit.noGoto_ret]
                  go_ret
                  exact HP.out
            · have hkn : (x.args.length : Int) ≤ (k : Int) := by omega
              have HP : Hid (SPost x y w (.returned (.bool true)) wr) := Lib.hid (SPost.yes (Ex.ext' HE.out.1 HE.out.2.1 (List.ext_getElem HE.out.2.2 fun i h1 h2 => HQ.out i (by omega) h1 h2)) (HT.out.below.trans (HB.out.mono (by have := HT.out.lt; have := HT.out.size; omega))))
              go_wp2_with fail
              try rw [Exit.noGoto_ret]
              go_ret
              exact HP.out
        · have hl' : ((x.args.length : Int) != (y.args.length : Int)) = true := by simp; omega
          have HP : Hid (SPost x y w (.returned (.bool false)) W) := Lib.hid (SPost.no (fun e => hl (by rw [e])) HT.out.below)
          clear hl
          go_enter Tryd.func28, Tryd.ntmps28
          go_wp2_with fail
          go_ret
          exact HP.out
      · have hn' : (x.n != y.n) = true := by simp [hn]
        have HP : Hid (SPost x y w (.returned (.bool false)) W) := Lib.hid (SPost.no (fun e => hn (by rw [e])) HT.out.below)
        clear hn
        go_enter Tryd.func28, Tryd.ntmps28
        go_wp2_with fail
        go_ret
        exact HP.out
    · have ho' : ((x.op : Int) != (y.op : Int)) = true := by simp; omega
      have HP : Hid (SPost x y w (.returned (.bool false)) W) := Lib.hid (SPost.no (fun e => ho (by rw [e])) HT.out.below)
      clear ho
      go_enter Tryd.func28, Tryd.ntmps28
      go_wp2_with fail
      go_ret
      exact HP.out
end Go.Proofs.YtjmfneljgogohaaDoor.exp

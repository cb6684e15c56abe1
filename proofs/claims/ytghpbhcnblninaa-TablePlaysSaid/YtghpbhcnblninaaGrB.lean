/- What group.Owns, and the reference's, answer: a row of their own of the groups that the place has. -/
import Derived.Test.YtghpbhcnblninaaGrA
import Derived.Deep.LoopGhost
import Derived.Deep.QuietTactic
import Derived.Lib.OthersKept
import Derived.OwnWalk
import Derived.Below
namespace Go.Proofs.Ytghpbhcnblninaa.grp
set_option linter.unusedSimpArgs false
set_option linter.unusedVariables false
open Go.RowKit

def intV (n : Int) : Value := .int .i64 n
theorem infoI : (Try.prog.info? 3).map (fun i => (i.zero, i.size, i.bytes)) = some (some (.int .i64 0), 1, 8) := by kernel_rfl
theorem cell_one_new (w : World) (x : Value) (t : TypeId) : ∀ j u, [x][j]? = some u → (w.alloc (.cells #[x] t)).cell? ((⟨w.heap.size, 0, none⟩ : Addr).add j) = some u := by
  intro j u hj
  match j, hj with
  | 0, hj => simp at hj; subst hj; simp [Addr.add]
  | (j + 1), hj => simp at hj
theorem own_below {W W' : World} {B e size n : Nat} {v : Value} {xs : List Value} (h : W.ownsRow B e size v n xs) (hb : Below W.heap.size W W') : W'.ownsRow B e size v n xs :=
  h.kept (row := none) ⟨hb.os, hb.tape, hb.output, hb.size, fun k hk _ => hb.block k hk⟩ (by cases hv : v.ownBlock <;> simp)
theorem own_cases {w : World} {B e n : Nat} {v : Value} {xs : List Value} (h : w.ownsRow B e 1 v n xs) :
    (v = .slice none 0 0 ∧ n = 0) ∨ ∃ g cap, v = .slice (some ⟨g, 0, none⟩) n cap ∧ n ≤ cap ∧ cap ≤ maxLen ∧ B ≤ g ∧ g < w.heap.size ∧ ∀ j u, xs[j]? = some u → w.cell? ⟨g, j, none⟩ = some u := by
  rcases h.2 with h0 | ⟨g, cap, cur, rfl, hb, hg, h1, h2, h3, h4⟩
  · exact .inl h0
  · refine .inr ⟨g, cap, rfl, h1, h2, hb, (Array.getElem?_eq_some_iff.1 hg).1, fun j u hj => ?_⟩
    have := h.cells (g := g) rfl j u hj
    have hadd : (⟨g, 0, none⟩ : Addr).add j = ⟨g, j, none⟩ := by unfold Addr.add; split <;> simp_all
    rwa [hadd] at this
theorem below_on' {w w' w'' : World} (h : Below w.heap.size w w') (k : Below w'.heap.size w' w'') : Below w.heap.size w w'' := h.trans (k.mono h.size)
theorem below_made (w : World) (o : Obj) : Below w.heap.size w (w.alloc o) := (Below.refl _ _).alloc (Nat.le_refl _) _
theorem below_drewN (w : World) (q : Nat) : Below w.heap.size w (w.drewN q) := ⟨rfl, rfl, rfl, Nat.le_refl _, fun _ _ => rfl⟩

/-- What is had behind the first groups. -/
def OwnRel (z par : Int) (w wr : World) (v5 : Value) (k : Nat) : Prop := wr.ownsRow w.heap.size 3 1 v5 (ownL z par k).length ((ownL z par k).map intV) ∧ Below w.heap.size w wr
def OwnPost (z par : Int) (w : World) (e : Ending) (w' : World) : Prop := ∃ v, e = .returned v ∧ w'.ownsRow w.heap.size 3 1 v (owns z par).length ((owns z par).map intV) ∧ Below w.heap.size w w'
theorem own_more {z par : Int} {w wr w2 : World} {k : Nat} {v4 : Value} {o : Obj} {r : Option Nat} (h : hasB z par k = true) (hb : Below w.heap.size w wr) (hr : ∀ j, r = some j → w.heap.size ≤ j)
    (k4 : w2.ownsRow w.heap.size 3 1 v4 ((ownL z par k).length + 1) ((ownL z par k).map intV ++ [.int .i64 (k : Int)])) (g4 : (wr.alloc o).grownBy w2 r) : OwnRel z par w w2 v4 (k + 1) := by
  refine ⟨?_, (hb.alloc hb.size _).grown g4 (by rw [World.size_alloc]; have := hb.size; omega) hr⟩
  rw [ownL_yes h]
  simpa [intV] using k4
theorem own_same {z par : Int} {w wr : World} {k : Nat} {v5 : Value} (h : hasB z par k = false) (hr : OwnRel z par w wr v5 k) : OwnRel z par w wr v5 (k + 1) := by
  unfold OwnRel; rw [ownL_not h]; exact hr

set_option maxHeartbeats 800000 in
set_option maxRecDepth 1000000 in
theorem owns_any (z par : Int) (w : World) : Calls Try.prog 33 #[.int .i64 z, .int .i64 par] w (OwnPost z par w) := by
  obtain ⟨i0, hi, hz0, hz1, hz2⟩ := info_parts infoI
  have HM := Lib.hid (may_any par w)
  cases hp : mayB par with
  | false =>
    have HE := Lib.hid (owns_no (z := z) hp)
    rw [hp] at HM
    clear hp
    go_enter Try.func33, Try.ntmps33
    go_wp2_with fail
    refine HM.out.mono ?_
    rintro e w1 ⟨rfl, rfl⟩
    go_wp2_with fail
    go_ret
    exact ⟨_, rfl, by rw [HE.out]; exact World.ownsRow_nil _ _ _ _, Below.refl _ _⟩
  | true =>
    have HP := Lib.hid hp
    rw [hp] at HM
    clear hp
    go_enter Try.func33, Try.ntmps33
    go_wp2_with fail
    refine HM.out.mono ?_
    rintro e w1 ⟨rfl, rfl⟩
    go_wp2_with fail
    go_loopg [5, 10] 8 (fun g v5 v10 wr => ∃ k : Nat, k + g = 8 ∧ v10 = .int .i64 k ∧ OwnRel z par w1 wr v5 k)
    case atStart => exact ⟨0, by omega, rfl, World.ownsRow_nil _ _ _ _, Below.refl _ _⟩
    case round =>
      obtain ⟨k, hk, rfl, hown, hb⟩ := hrel
      have HO := Lib.hid hown; have HB := Lib.hid hb
      have HL := Lib.hid (fun j hj => (hown.lt j hj).1)
      have hlen := ownL_len z par k
      cases gk with
      | zero =>
        have hkz : ¬ ((k : Int) < 8) := by omega
        obtain rfl : k = 8 := by omega
        clear hown hb hlen
        go_wp2_with fail
        try rw [Exit.noGoto_ret]
        go_ret
        exact ⟨_, rfl, HO.out, HB.out⟩
      | succ g =>
        have hkz : (k : Int) < 8 := by omega
        have HC := Lib.hid (placeOf_any (k : Int) par wr (by omega) hkz HP.out)
        have HH : Hid (hasB z par k = decide (plO k par = z)) := Lib.hid (by simp [hasB, HP.out])
        have HSZ : Hid (∀ o, w1.heap.size ≤ (wr.alloc o).heap.size) := Lib.hid (fun o => by rw [World.size_alloc]; have := hb.size; omega)
        obtain ⟨p, hpo⟩ : ∃ p, plO k par = p := ⟨_, rfl⟩
        rw [hpo] at HC HH
        clear hown hb hpo
        by_cases hpz : p = z
        · subst hpz
          have HY : Hid (hasB p par k = true) := Lib.hid (by rw [HH.out]; simp)
          clear HH
          go_wp2_with fail
          refine HC.out.mono ?_
          rintro e w2 ⟨rfl, rfl⟩
          go_wp2_with (at_builtin; refine wpList_append_own _ rfl (.tmp 18) (.tmp 20) 49 rfl w1.heap.size 3 i0 (.int .i64 0) 1 8 Try.underlying49 hi hz0 hz1 hz2 rfl (by decide) _ _ _ rfl (HO.out.alloc _) ⟨_, 0, none⟩ 1 1 [.int .i64 (k : Int)] rfl rfl (cell_one_new _ _ _) (by simp [Value.oneCell']) (by unfold maxLen; omega) (by omega) (HSZ.out _) ?_)
          intro v4 w3 k4 g4 _
          have HR2 := Lib.hid (own_more HY.out HB.out HL.out k4 g4)
          clear k4 g4
          go_wp2_with fail
          go_roundg g
          case measure => omega
          case rel => exact ⟨k + 1, by omega, by go_num, HR2.out⟩
        · have hne : (p == z) = false := by simp [hpz]
          have HY : Hid (hasB z par k = false) := Lib.hid (by rw [HH.out]; simp [hpz])
          have HR2 := Lib.hid (own_same HY.out ⟨HO.out, HB.out⟩)
          clear HH hpz
          go_wp2_with fail
          refine HC.out.mono ?_
          rintro e w2 ⟨rfl, rfl⟩
          go_wp2_with fail
          go_roundg g
          case measure => omega
          case rel => exact ⟨k + 1, by omega, by go_num, HR2.out⟩
end Go.Proofs.Ytghpbhcnblninaa.grp

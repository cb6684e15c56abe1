/- What texts hands back: a row of the records, the caller's own. -/
import Derived.Test.YtbnnbaoimidfnaaL
namespace Go.Proofs.Ytbnnbaoimidfnaa.lg
set_option linter.unusedSimpArgs false
set_option linter.unusedVariables false
open Go.RowKit byt frm dsk

def TextsRel (w : World) (L : List Fr) (u i : Value) (wr : World) : Prop :=
  ∃ k : Nat, k ≤ L.length ∧ i = .int .i64 k ∧ wr.ownsRow w.heap.size 38 4 u k (recRows (L.take k)) ∧ Below w.heap.size w wr
def TextsPost (L : List Fr) (w : World) (e : Ending) (w' : World) : Prop :=
  ∃ v, e = .returned v ∧ w'.ownsRow w.heap.size 38 4 v L.length (recRows L) ∧ Below w.heap.size w w'
theorem own_on {W W' : World} {B e size n : Nat} {v : Value} {xs : List Value} (h : W.ownsRow B e size v n xs) (hb : Below W.heap.size W W') : W'.ownsRow B e size v n xs :=
  h.kept (row := none) ⟨hb.os, hb.tape, hb.output, hb.size, fun k hk _ => hb.block k hk⟩ (by cases hv : v.ownBlock <;> simp)
theorem take_more {L : List Fr} {k : Nat} {r : Fr} (h : L[k]? = some r) : L.take (k + 1) = L.take k ++ [r] := by
  have hlt := (List.getElem?_eq_some_iff.1 h).1
  rw [List.take_succ_eq_append_getElem hlt, (List.getElem?_eq_some_iff.1 h).2]
theorem texts_more {w w1 w2 : World} {L : List Fr} {k : Nat} {r : Fr} {o : Obj} {rw' : Option Nat} {v4 v5 : Value} (hr : L[k]? = some r) (hro : ∀ j, rw' = some j → w.heap.size ≤ j)
    (h2 : w2.ownsRow w.heap.size 38 4 v4 (k + 1) (recRows (L.take k) ++ recRow r)) (g2 : (w1.alloc o).grownBy w2 rw') (hb : Below w.heap.size w w1) (hv : v5 = .int .i64 (k + 1 : Nat)) : TextsRel w L v4 v5 w2 := by
  have hlt := (List.getElem?_eq_some_iff.1 hr).1
  refine ⟨k + 1, by omega, hv, ?_, (hb.alloc hb.size _).grown g2 (by rw [World.size_alloc]; have := hb.size; omega) hro⟩
  rw [take_more hr, recRows_snoc]
  exact h2
set_option maxHeartbeats 1600000 in
set_option maxRecDepth 100000 in
theorem texts_any {w : World} {l d : Nat} {y : Lg} {v : Value} {L : List Fr} (hat : LogAt w l d y v) (hL : y.recs = L) (hlen : L.length ≤ 4194304) : Calls Try.prog 18 #[ptr l 0] w (TextsPost L w) := by
  obtain ⟨i0, hi, hz0, hz1, hz2⟩ := info38
  have HAT := Lib.hid hat
  have HLL := Lib.hid hL
  obtain ⟨n, hn⟩ : ∃ n, L.length = n := ⟨_, rfl⟩
  have HN := Lib.hid hn
  clear hat hL
  go_enter Try.func18, Try.ntmps18
  go_wp2_with fail
  refine (len_any (n := n) HAT.out (by rw [HLL.out]; exact hn)).mono ?_
  rintro e w' ⟨rfl, rfl⟩
  go_wp2_with fail
  go_loopw [3, 10] (fun u i wr => TextsRel w L u i wr) (fun _ i _ => n - (intOf i).toNat)
  case atStart => exact ⟨0, Nat.zero_le _, rfl, World.ownsRow_nil _ _ _ _, Below.refl _ _⟩
  case round =>
    obtain ⟨k, hk, rfl, hown, hb⟩ := hrel
    by_cases hlt : k < L.length
    · obtain ⟨r, hr⟩ : ∃ r, L[k]? = some r := ⟨_, List.getElem?_eq_getElem hlt⟩
      have HR := Lib.hid hr
      have HA := Lib.hid (at_any (HAT.out.below hb) (k := k) (r := r) (by rw [HLL.out]; exact hr))
      have HLO := Lib.hid (fun j hj => (hown.lt j hj).1)
      have HOW := Lib.hid hown
      have HB := Lib.hid hb
      have HSZ : Hid (∀ w1 o, Below wr.heap.size wr w1 → w.heap.size ≤ (w1.alloc o).heap.size) := Lib.hid (fun w1 o h1 => by rw [World.size_alloc]; have := hb.size; have := h1.size; omega)
      have hkn : (k : Int) < (n : Int) := by omega
      have hk2 : k ≤ 4194304 := by omega
      obtain ⟨⟨kd, p⟩, hkp⟩ := r
      clear hown hb hr hlt hn hk
      dsimp only at HA
      go_wp2_with fail
      refine HA.out.mono ?_
      rintro e w1 ⟨rfl, hb1⟩
      have HO1 := Lib.hid (own_on HOW.out hb1)
      have HB1 := Lib.hid hb1
      have HB2 := Lib.hid (HB.out.trans (hb1.mono HB.out.size))
      clear hb1
      go_wp2_with (at_builtin; refine wpList_append_own _ rfl (.tmp 20) (.tmp 24) 36 rfl w.heap.size 38 i0 (.agg #[.int .u8 0, .string ⟨#[]⟩, .bool false, .int .i64 0]) 4 40 Try.underlying36 hi hz0 hz1 hz2 rfl (by decide) _ _ _ rfl (HO1.out.alloc _) ⟨_, 0, none⟩ 1 1 [.int .u8 (kd : Nat), .string p, .bool false, .int .i64 0] rfl rfl (World.news_of_block (cs := #[.int .u8 (kd : Nat), .string p, .bool false, .int .i64 0]) (t := 38) (fr := (0, 0)) (heap_alloc_new _ _)) (by simp [Value.oneCell']) (by unfold maxLen; omega) (by omega) (HSZ.out _ _ HB1.out) ?_)
      intro v4 w2 k4 g4 _
      have HM := Lib.hid (fun (v5 : Value) (hv : v5 = .int .i64 (k + 1 : Nat)) => texts_more HR.out HLO.out k4 g4 HB2.out hv)
      clear k4 g4
      go_wp2
      go_roundw
      case rel => exact HM.out _ (by go_num)
      case measure => simp [intOf]; omega
    · obtain rfl : k = L.length := by omega
      have HOW := Lib.hid hown
      have HB := Lib.hid hb
      have hkn : (n : Int) ≤ (L.length : Int) := by omega
      clear hown hb hlt
      go_wp2_with fail
      go_ret
      refine ⟨_, rfl, ?_, HB.out⟩
      have := HOW.out
      rwa [List.take_length] at this
theorem textsW {B l d : Nat} {w0 w : World} {x : D} {y : Lg} {K : Nat → Prop} {L : List Fr} (hL : y.recs = L) (h : LogW B w0 l d x y K w) : Calls Try.prog 18 #[ptr l 0] w (TextsPost L w) := by
  have hlen := h.ok.len h.xok
  obtain ⟨G, ⟨F, v, hp, _⟩, _⟩ := h
  exact texts_any hp.log hL (by rw [← hL]; exact hlen)
end Go.Proofs.Ytbnnbaoimidfnaa.lg

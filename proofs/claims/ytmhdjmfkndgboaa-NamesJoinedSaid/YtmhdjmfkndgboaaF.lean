/- What names.Turned answers: of every text. -/
import Derived.Test.YtmhdjmfkndgboaaQ
import Derived.Test.YtmhdjmfkndgboaaE
namespace Go.Proofs.Ytmhdjmfkndgboaa
open Go.RowKit

def turnedE (s : ByteArray) : Ending := .returned (.tuple #[.string (turnedO s).1, .int .i64 (turnedO s).2])
theorem turnedE_of {s t : ByteArray} {c : Int} (h : turnedO s = (t, c)) : turnedE s = .returned (.tuple #[.string t, .int .i64 c]) := by unfold turnedE; rw [h]

def TurnRel (s : ByteArray) (w : World) (u4 : Value) (wr : World) : Prop :=
  ∃ pos done, wr.heap[w.heap.size]? = some (.stringIter s pos) ∧ u4 = .string (textOf (List.reverse done)) ∧ Below w.heap.size w wr ∧ rn s 0 = done ++ rn s pos
theorem encode_app {r : Nat} (h : okR r) (d : List Nat) : Utf8.encode (r : Int) ++ textOf d.reverse = textOf (d ++ [r]).reverse := by
  rw [encode_enc r h]
  apply byteArray_ext
  rw [append_toList, textOf_toList, textOf_toList]
  simp

set_option maxHeartbeats 800000 in
set_option maxRecDepth 1000000 in
theorem turned_any (s : ByteArray) (w : World) (hs : s.size ≤ 1000000) : Calls Try.prog 11 #[.string s] w fun e w' => e = turnedE s ∧ Below w.heap.size w w' := by
  cases hn : nameB s with
  | false =>
    go_enter Try.func11, Try.ntmps11
    go_wp2_with fail
    refine (name_false hn _).mono ?_
    rintro e w1 ⟨rfl, hb1⟩
    have HB1 := Lib.hid hb1; clear hb1
    go_wp2_with fail
    go_ret2
    exact ⟨by rw [turnedE_of (turned_bad hn)]; rfl, HB1.out⟩
  | true =>
    have HN := Lib.hid hn
    go_enter Try.func11, Try.ntmps11
    go_wp2_with fail
    refine (name_true hn _).mono ?_
    rintro e w1 ⟨rfl, hb1⟩
    have HB1 := Lib.hid hb1; clear hb1 hn
    go_wp2_with fail
    go_loopw [4] (fun u4 wr => TurnRel s w1 u4 wr) (fun _ wr => s.size - wr.iterPos w1.heap.size)
    case atStart => exact ⟨0, [], World.iter_heap w1 s 0, rfl, below_iter w1 s 0, rfl⟩
    case round =>
      obtain ⟨pos, done, hit, rfl, hb, hd⟩ := hrel
      have HD := Lib.hid hd; have HB := Lib.hid hb; have HI := Lib.hid hit
      clear hd hb
      have hdl : (textOf done.reverse).size ≤ 4 * 1000000 := by
        rw [textOf_size]
        have h1 := flat_length done.reverse
        have h2 := congrArg List.length HD.out
        have h3 := rn_length s 0
        simp only [List.length_append, List.length_reverse] at h1 h2
        omega
      by_cases hp : pos < s.size
      · have hnx : ∀ ty, (Instr.next (.pointer (some ⟨w1.heap.size, 0, none⟩)) true ty).run Try.prog wr = _ := fun ty => Lib.run_next_any_at wr w1.heap.size s pos ty hit hp
        have hwd := width_pos s pos hp
        have hok := decode_ok s pos
        have hel : (Utf8.encode ((Utf8.decode s pos).1 : Int)).size ≤ 4 := by
          rw [encode_enc _ hok]
          exact (enc_length _).2
        have HE := Lib.hid (encode_app hok done)
        have HI2 := Lib.hid (Lib.iterAt_heap wr w1.heap.size s pos (pos + (Utf8.decode s pos).2) hit)
        clear hit
        go_wp2_with fail
        go_roundw
        case rel => exact ⟨pos + (Utf8.decode s pos).2, done ++ [(Utf8.decode s pos).1], HI2.out, by rw [← HE.out], Lib.below_iterAt HB.out (Nat.le_refl _) s _, by rw [HD.out, rn_step s pos hp]; simp⟩
        case measure => simp only [World.iterPos, HI2.out, HI.out]; omega
      · have hnx : ∀ ty, (Instr.next (.pointer (some ⟨w1.heap.size, 0, none⟩)) true ty).run Try.prog wr = _ := fun ty => Lib.run_next_end_at wr w1.heap.size s pos ty hit hp
        have hdone : done = rn s 0 := by have := HD.out; rw [rn_end s pos hp] at this; simpa using this.symm
        subst hdone
        clear hit
        have h1 := HB1.out.size
        have h2 := HB.out.size
        cases h3 : nameB (textOf (rn s 0).reverse) with
        | false =>
          have H3 := Lib.hid h3
          go_wp2_with fail
          refine (name_false h3 _).mono ?_
          rintro e w2 ⟨rfl, hb2⟩
          have HB2 := Lib.hid hb2; clear hb2 h3
          go_wp2_with fail
          go_ret2
          exact ⟨by rw [turnedE_of (turned_self HN.out H3.out)]; rfl, HB1.out.trans ((HB.out.mono (by omega)).trans (HB2.out.mono (by omega)))⟩
        | true =>
          have H3 := Lib.hid h3
          go_wp2_with fail
          refine (name_true h3 _).mono ?_
          rintro e w2 ⟨rfl, hb2⟩
          have HB2 := Lib.hid hb2; clear hb2 h3
          go_wp2_with fail
          go_ret2
          exact ⟨by rw [turnedE_of (turned_other HN.out H3.out)]; rfl, HB1.out.trans ((HB.out.mono (by omega)).trans (HB2.out.mono (by omega)))⟩
end Go.Proofs.Ytmhdjmfkndgboaa

/- What frame.Put answers. -/
import Derived.Test.YtbnnbaoimidfnaaFrA
namespace Go.Proofs.Ytbnnbaoimidfnaa.frm
open Go.RowKit byt

/-- A byte as a text. -/
theorem one_string (w : World) (b : Nat) : (convert 44 9 (.slice (some ⟨w.heap.size, 0, none⟩) 1 1)).run Try.prog (w.alloc (.cells #[.int .u8 (b : Int)] 5)) = .ok (.string (txt [UInt8.ofNat b])) (w.alloc (.cells #[.int .u8 (b : Int)] 5)) := by
  have h := run_convert_bytes_arg (P := Try.prog) (w.alloc (.cells #[.int .u8 (b : Int)] 5)) 44 5 Try.underlying44 Try.underlying5 w.heap.size 0 1 1 [(b : Int)] rfl (fun i hi => ?_) 9 Try.underlying9
  · rw [h]
    have e : strOfNums [(b : Int)] = txt [UInt8.ofNat b] := by simp [strOfNums, txt]
    rw [e]
  · obtain rfl : i = 0 := by omega
    have := cell_one_new w (.int .u8 (b : Int)) 5 0 _ rfl
    exact this
theorem below_on {w w' w'' : World} (h : Below w.heap.size w w') (k : Below w'.heap.size w' w'') : Below w.heap.size w w'' := h.trans (k.mono h.size)
theorem sumOf_at {s t : ByteArray} (h : tl s = t) (w : World) (hs : s.size ≤ 9223372036854775807) : Calls Try.prog 32 #[.string s] w fun e w' => e = .returned (.string t) ∧ Below w.heap.size w w' := by
  subst h; exact sumOf_any s w hs
theorem putO_size {p : ByteArray} (h : p.size ≤ 65536) : (putO p).1.size ≤ 65546 := by
  have h2 := sev_ten (tf_lt (fits_size (s := p) (by omega)).1 (fits_size (s := p) (by omega)).2)
  rw [putO_fine h, ByteArray.size_append, txt_size]
  omega
def PutFPost (k : Nat) (p : ByteArray) (w : World) (e : Ending) (w' : World) : Prop := e = .returned (.tuple #[.string (putF k p).1, .int .i64 (putF k p).2]) ∧ Below w.heap.size w w'
theorem putF_post {k : Nat} {p : ByteArray} {w w' : World} {t : ByteArray} {c : Int} (h : putF k p = (t, c)) (hb : Below w.heap.size w w') : PutFPost k p w (.returned (.tuple #[.string t, .int .i64 c])) w' := ⟨by rw [h], hb⟩

set_option maxHeartbeats 800000 in
set_option maxRecDepth 1000000 in
theorem putF_any (k : Nat) (p : ByteArray) (w : World) (hk : k < 256) (hp : p.size ≤ 9223372036854775807) : Calls Try.prog 21 #[.int .u8 k, .string p] w (PutFPost k p w) := by
  by_cases h0 : k = 0
  · subst h0
    go_enter Try.func21, Try.ntmps21
    go_wp2
    go_ret2
    exact putF_post (putF_zero p) (Below.refl _ _)
  · have hk0 : ((k : Int) == 0) = false := by simp; omega
    by_cases hl : 65536 < p.size
    · have HP := Lib.hid (putF_long h0 hl)
      obtain ⟨q, hq⟩ : ∃ q, putO p = (q, 3) := ⟨_, by unfold putO; rw [if_pos hl]⟩
      have HQ := Lib.hid hq; clear hq
      go_enter Try.func21, Try.ntmps21
      go_wp2_with fail
      refine (putText_at HQ.out _ hp).mono ?_
      rintro e w1 ⟨rfl, hb⟩
      have HB := Lib.hid hb; clear hb
      go_wp2_with fail
      go_ret2
      exact putF_post HP.out HB.out
    · have hsz := putO_size (p := p) (by omega)
      have hf := putF_fine (p := p) h0 (by omega)
      obtain ⟨q, hq⟩ : ∃ q, txt (sev (tf p.size)) ++ p = q := ⟨_, rfl⟩
      have hpo := putO_fine (p := p) (by omega)
      rw [hq] at hf hpo
      rw [hpo] at hsz
      simp only at hsz
      obtain ⟨c, ec⟩ : ∃ c, txt [UInt8.ofNat k] = c := ⟨_, rfl⟩
      have hc : c.size ≤ 1 := by rw [← ec]; exact Nat.le_refl _
      have hcq : (c ++ q).size ≤ 65547 := by rw [ByteArray.size_append]; omega
      obtain ⟨t, et⟩ : ∃ t, tl (c ++ q) = t := ⟨_, rfl⟩
      have ht : t.size ≤ 4 := by rw [← et]; exact Nat.le_refl _
      have HF := Lib.hid (show putF k p = ((c ++ q) ++ t, 0) by rw [hf, ← et, ← ec]; rfl)
      have HP := Lib.hid hpo; have HC := Lib.hid ec; have HT := Lib.hid et
      clear hf hpo ec et hq
      go_enter Try.func21, Try.ntmps21
      go_wp2_with fail
      refine (putText_at HP.out _ hp).mono ?_
      rintro e w1 ⟨rfl, hb⟩
      have HB := Lib.hid hb; clear hb
      have hcv := one_string w1 k
      rw [HC.out] at hcv
      go_wp2_with fail
      refine (sumOf_at HT.out _ (by omega)).mono ?_
      rintro e w2 ⟨rfl, hb⟩
      have HB := Lib.hid (below_on (HB.out.alloc HB.out.size _) hb); clear hb
      go_wp2_with fail
      go_ret2
      exact putF_post HF.out HB.out

theorem putF_at {k : Nat} {p t : ByteArray} {c : Int} (h : putF k p = (t, c)) (w : World) (hk : k < 256) (hp : p.size ≤ 9223372036854775807) : Calls Try.prog 21 #[.int .u8 k, .string p] w fun e w' => e = .returned (.tuple #[.string t, .int .i64 c]) ∧ Below w.heap.size w w' := by
  have := putF_any k p w hk hp
  unfold PutFPost at this
  rwa [h] at this
end Go.Proofs.Ytbnnbaoimidfnaa.frm
